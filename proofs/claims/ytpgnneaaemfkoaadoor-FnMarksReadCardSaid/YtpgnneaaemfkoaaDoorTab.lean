/-
  What the rows' condition on math/bits' tables gives the walks; the start that meets it.
-/
import Derived.Test.YtpgnneaaemfkoaaDoorRead
import Derived.Test.YtpgnneaaemfkoaaDoorOpen
import Derived.Lib.LaidTab
import Derived.LaidMore
import Derived.ProofKit
import Derived.Stop.LaidErr
namespace Go.Proofs.YtpgnneaaemfkoaaDoor
open Go.RowKit

/-- The rows' list. -/
abbrev laidList : List (String × DataW Unit) := [("math/bits.deBruijn32tab", Rows.laid_math_bits_deBruijn32tab), ("math/bits.deBruijn64tab", Rows.laid_math_bits_deBruijn64tab)]
theorem g64 : Tryd.prog.globalNamed "math/bits.deBruijn64tab" = some 1 := by kernel_rfl
theorem t64 : (Tryd.prog.globals[1]?).map (·.type) = some 58 := by kernel_rfl
theorem tab_getD : ∀ j, j < 64 → (Lib.deBruijn64tab.map fun (n : Nat) => (n : Int)).getD j 0 = ((Lib.deBruijn64tab.getD j 0 : Nat) : Int) := by decide +kernel

/-- The door's own heap meets the condition. -/
theorem door_met (os : Os) (args : Array Value) : laidMetH Tryd.prog laidList ((World.doorLaid Tryd.prog 400 os).forCall (fun _ _ => 0) ⟨#[], args, []⟩).memory :=
  laidMetH_of_parts3 (fuel := 8) (laidMet_of_run' 8 (by kernel_rfl) (by kernel_rfl)) (by kernel_rfl) (by kernel_rfl)

theorem tab_of_laid {W : World} (h : laidMetH Tryd.prog laidList W) : Tab W := by
  rw [MakeChecks.laidMetH_plain _ _ _ (by kernel_rfl)] at h
  have h2 : laidMet Tryd.prog [("math/bits.deBruijn64tab", Lib.tabData .u8 (Lib.deBruijn64tab.map fun (n : Nat) => (n : Int)))] W := laidMet.tail h
  have hT := Lib.tabIs_of_head g64 t64 Tryd.underlying58 Tryd.underlying5 (by kernel_rfl) (by kernel_rfl) h2
  intro j hj
  have := hT.cell g64 j (by simpa [Lib.deBruijn64tab] using hj)
  rwa [tab_getD j hj] at this

end Go.Proofs.YtpgnneaaemfkoaaDoor
