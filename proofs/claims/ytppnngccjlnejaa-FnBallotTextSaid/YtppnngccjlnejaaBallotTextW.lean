/-
  laws.FnBallotText returns true for every code: the text of a drawn ballot is that of the model, and a valid ballot's text is read as this ballot. No condition.
-/
import Derived.Test.YtppnngccjlnejaaOpen
import Derived.Test.YtppnngccjlnejaaTextB
import Derived.Test.YtppnngccjlnejaaDrawC
namespace Go.Proofs.Ytppnngccjlnejaa.fnBallotText
open Go.RowKit
set_option linter.unusedVariables false


/-- The law's walk: it returns true, and writes nothing that was there. -/
theorem walk (a0 : Option Addr) (len0 cap0 : Nat) (z0 : List Int) (w : World) (w0 : IsRow .u8 w a0 len0 cap0 z0) :
    Calls Try.prog 3 #[.slice a0 len0 cap0] w fun e w' => e = .returned (.bool true) ∧ Below w.heap.size w w' := by
  by_cases hl : len0 ≤ 1048576
  · have hcap := w0.cap
    have HB := Lib.hid w0.bytes; clear w0
    go_enter Try.func3, Try.ntmps3
    go_wp2_with fail
    refine (drawText_any a0 len0 cap0 _ _ HB.out hcap (by omega)).mono ?_
    rintro e w1 ⟨zs, a1, c1, rfl, ho, hz, hb⟩
    have I1 := Lib.hid (IsInts.of_owned ho (by omega)); clear ho
    have B1 := Lib.hid hb; clear hb HB
    have heq : ((txtB zs).toList == (txtB zs).toList) = true := by simp
    go_wp2_with fail
    refine (implText_any _ _ _ zs _ I1.out).mono ?_
    rintro e w2 ⟨rfl, hb⟩
    have I2 := Lib.hid (I1.out.below hb)
    have B2 := Lib.hid (B1.out.trans (hb.mono B1.out.size)); clear hb I1 B1
    go_wp2_with fail
    refine (specText_any _ _ _ zs _ I2.out).mono ?_
    rintro e w3 ⟨rfl, hd⟩
    have I3 := Lib.hid (I2.out.dr hd)
    have B3 := Lib.hid (B2.out.trans (hd.below _)); clear hd I2 B2
    cases hv : validB zs 5
    · go_wp2_with fail
      refine (specValid_any _ _ _ zs _ _ I3.out).mono ?_
      rintro e w4 ⟨rfl, hd⟩
      have B4 := Lib.hid (B3.out.trans (hd.below _)); clear hd
      go_wp2
      go_ret
      exact ⟨rfl, B4.out⟩
    · have HS := Lib.hid (txtB_size hv)
      have HP := Lib.hid (txtB_parse hv)
      have HK := Lib.hid (txtB_ok hv)
      have hsz : (((txtB zs).size : Int) == (zs.length : Int)) = true := by rw [HS.out]; simp
      have hself := eqB_self zs
      go_wp2_with fail
      refine (specValid_any _ _ _ zs _ _ I3.out).mono ?_
      rintro e w4 ⟨rfl, hd⟩
      have I4 := Lib.hid (I3.out.dr hd)
      have B4 := Lib.hid (B3.out.trans (hd.below _)); clear hd I3 B3
      go_wp2_with fail
      refine (implParse_as _ zs true _ (by rw [HS.out]; omega) HP.out HK.out).mono ?_
      rintro e w5 ⟨a5, c5, rfl, ho, hb⟩
      have I5 := Lib.hid (IsInts.of_owned ho (by omega)); clear ho
      have I4' := Lib.hid (I4.out.below hb)
      have B5 := Lib.hid (B4.out.trans (hb.mono B4.out.size)); clear hb I4 B4
      go_wp2_with fail
      refine (sameInts_any _ _ _ zs _ _ _ zs _ I5.out I4'.out).mono ?_
      rintro e w6 ⟨rfl, hd⟩
      have B6 := Lib.hid (B5.out.trans (hd.below _)); clear hd
      go_wp2
      go_ret
      exact ⟨rfl, B6.out⟩
  · have hl' : (1048576 : Int) < (len0 : Int) := by omega
    clear w0
    go_enter Try.func3, Try.ntmps3
    go_wp2
    go_ret
    exact ⟨rfl, Below.refl _ _⟩

end Go.Proofs.Ytppnngccjlnejaa.fnBallotText
