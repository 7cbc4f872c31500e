/-
  What the rows' condition on the library's tables gives the walks: strconv.Itoa reads one of them; the start that meets it.
-/
import Derived.Test.YtoancpdiilofmaaDoorItoaSh
import Derived.Test.YtoancpdiilofmaaDoorOpen
import Derived.Test.YtoancpdiilofmaaDoorRows
import Derived.Test.YtoancpdiilofmaaDoorDecP
import Derived.Lib.LaidTab
import Derived.Lib.QuietBelow
import Derived.Lib.AppendIntMem
import Derived.LaidMore
import Derived.ProofKit
import Derived.Stop.LaidErr
namespace Go.Proofs.YtoancpdiilofmaaDoor
open Go.RowKit

/-- The rows' list. -/
abbrev laidList : List (String × DataW Unit) := [("math/bits.deBruijn32tab", Rows.laid_math_bits_deBruijn32tab), ("math/bits.deBruijn64tab", Rows.laid_math_bits_deBruijn64tab), ("internal/strconv.uint64pow10", Rows.laid_internal_strconv_uint64pow10)]
theorem gPow : Tryd.prog.globalNamed "internal/strconv.uint64pow10" = some 0 := by kernel_rfl
theorem tPow : (Tryd.prog.globals[0]?).map (·.type) = some 57 := by kernel_rfl

/-- The door's own heap meets the condition. -/
theorem door_met (os : Os) (args : Array Value) : laidMetH Tryd.prog laidList ((World.doorLaid Tryd.prog 400 os).forCall (fun _ _ => 0) ⟨#[], args, []⟩).memory :=
  laidMetH_of_parts3 (fuel := 8) (laidMet_of_run' 8 (by kernel_rfl) (by kernel_rfl)) (by kernel_rfl) (by kernel_rfl)

/-- The table that strconv.Itoa reads. -/
def Tab (w : World) : Prop := Lib.TabIs Tryd.prog w "internal/strconv.uint64pow10" .u64 Lib.pow10Tab
theorem tab_of_laid {W : World} (h : laidMetH Tryd.prog laidList W) : Tab W := by
  rw [MakeChecks.laidMetH_plain _ _ _ (by kernel_rfl)] at h
  have h2 : laidMet Tryd.prog [("internal/strconv.uint64pow10", Lib.tabData .u64 Lib.pow10Tab)] W := laidMet.tail (laidMet.tail h)
  exact Lib.tabIs_of_head gPow tPow Tryd.underlying57 Tryd.underlying51 (by kernel_rfl) (by kernel_rfl) h2
theorem Tab.below {w w' : World} (h : Tab w) (hb : Below w.heap.size w w') : Tab w' := (Lib.tabBelow_of_tabIs h) w' hb

theorem itoa_minus (n : Int) : (⟨(Lib.itoa n).toArray⟩ : ByteArray) = minusB n := by
  unfold Lib.itoa minusB decB
  split
  · apply ByteArray.ext
    simp
  · have e : n.toNat = n.natAbs := by omega
    rw [e]
/-- **strconv.Itoa**. -/
theorem itoa_as (n : Int) (s : ByteArray) (w : World) (hn : -9999999 ≤ n ∧ n ≤ 9999999) (ht : Tab w) (hs : minusB n = s) :
    Calls Tryd.prog 21 #[.int .i64 n] w fun e w' => e = .returned (.string s) ∧ Below w.heap.size w w' := by
  subst hs
  have h := Go.Proofs.Any.strconv_Itoa Tryd.itoa n (by omega) (by omega) w ht
  refine Calls.mono h ?_
  rintro e w' ⟨rfl, k, os, rfl⟩
  exact ⟨by rw [itoa_minus], below_regrown w (w.drewN k).drawn os⟩

end Go.Proofs.YtoancpdiilofmaaDoor
