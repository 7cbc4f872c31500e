/-
  laws.FnBallotParse returns true for every code: what is read can be written. No condition.
-/
import Derived.Test.YtppnngccjlnejaaOpen
import Derived.Test.YtppnngccjlnejaaTextC
import Derived.Test.YtppnngccjlnejaaDrawT
namespace Go.Proofs.Ytppnngccjlnejaa.fnBallotParse
open Go.RowKit
set_option linter.unusedVariables false


/-- The law's walk: it returns true, and writes nothing that was there. -/
theorem walk (a0 : Option Addr) (len0 cap0 : Nat) (z0 : List Int) (w : World) (w0 : IsRow .u8 w a0 len0 cap0 z0) :
    Calls Try.prog 4 #[.slice a0 len0 cap0] w fun e w' => e = .returned (.bool true) ∧ Below w.heap.size w w' := by
  by_cases hl : len0 ≤ 1048576
  · have hcap := w0.cap
    have HB := Lib.hid w0.bytes; clear w0
    go_enter Try.func4, Try.ntmps4
    go_wp2_with fail
    refine (drawParse_any a0 len0 cap0 _ _ HB.out hcap (by omega)).mono ?_
    rintro e w1 ⟨s, rfl, hs, hb⟩
    have B1 := Lib.hid hb; clear hb HB
    obtain ⟨pl, hpl⟩ : ∃ pl, parseL s = pl := ⟨_, rfl⟩
    have hp5 : pl.length ≤ 5 := by rw [← hpl]; exact parseL_short s
    have he : eqB pl pl = true := eqB_self pl
    have HP := Lib.hid hpl
    cases hok : validB (nums s) 5
    · have HK := Lib.hid hok
      clear hpl hok
      go_wp2_with fail
      refine (implParse_as s pl false _ (by omega) HP.out HK.out).mono ?_
      rintro e w2 ⟨a2, c2, rfl, ho, hb⟩
      have I2 := Lib.hid (IsInts.of_owned ho (by omega)); clear ho
      have B2 := Lib.hid (B1.out.trans (hb.mono B1.out.size)); clear hb B1
      go_wp2_with fail
      refine (specParse_as s pl false _ (by omega) HP.out HK.out).mono ?_
      rintro e w3 ⟨a3, c3, rfl, ho, hb⟩
      have I3 := Lib.hid (IsInts.of_owned ho (by omega)); clear ho
      have J3 := Lib.hid (I2.out.below hb); clear I2
      have B3 := Lib.hid (B2.out.trans (hb.mono B2.out.size)); clear hb B2
      go_wp2_with fail
      refine (sameInts_any _ _ _ pl _ _ _ pl _ J3.out I3.out).mono ?_
      rintro e w4 ⟨rfl, hd⟩
      have I4 := Lib.hid (I3.out.dr hd)
      have J4 := Lib.hid (J3.out.dr hd)
      have B4 := Lib.hid (B3.out.trans (hd.below _)); clear hd I3 J3 B3
      go_wp2_with fail
      refine (sameInts_any _ _ _ pl _ _ _ pl _ J4.out I4.out).mono ?_
      rintro e w5 ⟨rfl, hd⟩
      have B5 := Lib.hid (B4.out.trans (hd.below _)); clear hd
      go_wp2
      go_ret
      exact ⟨rfl, B5.out⟩
    · have HK := Lib.hid hok
      have hpn : pl = nums s := by rw [← hpl]; exact parseL_ok hok
      have hvp : validB pl 5 = true := by rw [hpn]; exact hok
      have htx : txtB pl = s := by rw [hpn]; exact txtB_nums' hok
      have HT := Lib.hid htx
      have hss : (s.toList == s.toList) = true := by simp
      clear hpl hok hpn htx
      go_wp2_with fail
      refine (implParse_as s pl true _ (by omega) HP.out HK.out).mono ?_
      rintro e w2 ⟨a2, c2, rfl, ho, hb⟩
      have I2 := Lib.hid (IsInts.of_owned ho (by omega)); clear ho
      have B2 := Lib.hid (B1.out.trans (hb.mono B1.out.size)); clear hb B1
      go_wp2_with fail
      refine (specParse_as s pl true _ (by omega) HP.out HK.out).mono ?_
      rintro e w3 ⟨a3, c3, rfl, ho, hb⟩
      have I3 := Lib.hid (IsInts.of_owned ho (by omega)); clear ho
      have J3 := Lib.hid (I2.out.below hb); clear I2
      have B3 := Lib.hid (B2.out.trans (hb.mono B2.out.size)); clear hb B2
      go_wp2_with fail
      refine (sameInts_any _ _ _ pl _ _ _ pl _ J3.out I3.out).mono ?_
      rintro e w4 ⟨rfl, hd⟩
      have J4 := Lib.hid (J3.out.dr hd)
      have B4 := Lib.hid (B3.out.trans (hd.below _)); clear hd I3 J3 B3
      go_wp2_with fail
      refine (implText_any _ _ _ pl _ J4.out).mono ?_
      rintro e w5 ⟨rfl, hb⟩
      have J5 := Lib.hid (J4.out.below hb)
      have B5 := Lib.hid (B4.out.trans (hb.mono B4.out.size)); clear hb J4 B4
      rw [HT.out]
      go_wp2_with fail
      refine (implValid_any _ _ _ pl _ _ J5.out).mono ?_
      rintro e w6 ⟨rfl, hb⟩
      have B6 := Lib.hid (B5.out.trans (hb.mono B5.out.size)); clear hb
      go_wp2
      go_ret
      exact ⟨rfl, B6.out⟩
  · have hl' : (1048576 : Int) < (len0 : Int) := by omega
    clear w0
    go_enter Try.func4, Try.ntmps4
    go_wp2
    go_ret
    exact ⟨rfl, Below.refl _ _⟩

end Go.Proofs.Ytppnngccjlnejaa.fnBallotParse
