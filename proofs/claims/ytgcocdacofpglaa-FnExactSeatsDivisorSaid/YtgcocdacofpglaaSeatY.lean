/-
  What the walks of the statements on divisors share.
-/
import Derived.Test.YtgcocdacofpglaaSeatX
import Derived.Test.YtgcocdacofpglaaSeatM
import Derived.Test.YtgcocdacofpglaaSeatQ
import Derived.Test.YtgcocdacofpglaaGrp11
namespace Go.Proofs.Ytgcocdacofpglaa
open Go.RowKit

theorem sameInts_it (a : Option Addr) (len cap : Nat) (zs : List Int) (b : Option Addr) (cap' : Nat) (w : World) (h : IsInts w a len cap zs) (h' : IsInts w b len cap' zs) :
    Calls Try.prog 12 #[.slice a len cap, .slice b len cap'] w fun e w' => e = .returned (.bool true) ∧ Dr w w' :=
  (sameInts_any a len cap zs b len cap' zs w h h').mono fun e w' ⟨he, hd⟩ => ⟨by rw [he, eqB_self], hd⟩
theorem div_short5 {vs : List Int} (h : vs.length ≤ 5) (s m : Int) (lots : List Int) : (divL vs s m lots).length ≤ 5 := by
  unfold divL
  split
  · rw [seatsL_length]; exact h
  · simp

end Go.Proofs.Ytgcocdacofpglaa
