/-
  laws.FnBallotTwice returns true for every code: no candidate is named twice. No condition.
-/
import Derived.Test.YtppnngccjlnejaaOpen
import Derived.Test.YtppnngccjlnejaaTextC
import Derived.Test.YtppnngccjlnejaaDrawT
namespace Go.Proofs.Ytppnngccjlnejaa.fnBallotTwice
open Go.RowKit
set_option linter.unusedVariables false


set_option maxHeartbeats 2000000 in
/-- The law's walk: it returns true, and writes nothing that was there. -/
theorem walk (a0 : Option Addr) (len0 cap0 : Nat) (z0 : List Int) (w : World) (w0 : IsRow .u8 w a0 len0 cap0 z0) :
    Calls Try.prog 5 #[.slice a0 len0 cap0] w fun e w' => e = .returned (.bool true) ∧ Below w.heap.size w w' := by
  by_cases hl : len0 ≤ 1048576
  · have hcap := w0.cap
    have HB := Lib.hid w0.bytes; clear w0
    go_enter Try.func5, Try.ntmps5
    go_wp2_with fail
    refine (drawParse_any a0 len0 cap0 _ _ HB.out hcap (by omega)).mono ?_
    rintro e w1 ⟨s, rfl, hs, hb⟩
    have B1 := Lib.hid hb; clear hb HB
    obtain ⟨pl, hpl⟩ : ∃ pl, parseL s = pl := ⟨_, rfl⟩
    have hp5 : pl.length ≤ 5 := by rw [← hpl]; exact parseL_short s
    have he : eqB pl pl = true := eqB_self pl
    have HP := Lib.hid hpl
    cases hok : validB (nums s) 5
    · have HK := Lib.hid hok
      clear hpl hok
      go_wp2_with fail
      refine (implParse_as s pl false _ (by omega) HP.out HK.out).mono ?_
      rintro e w2 ⟨a2, c2, rfl, ho, hb⟩
      have I2 := Lib.hid (IsInts.of_owned ho (by omega)); clear ho
      have B2 := Lib.hid (B1.out.trans (hb.mono B1.out.size)); clear hb B1
      go_wp2_with fail
      refine (specParse_as s pl false _ (by omega) HP.out HK.out).mono ?_
      rintro e w3 ⟨a3, c3, rfl, ho, hb⟩
      have I3 := Lib.hid (IsInts.of_owned ho (by omega)); clear ho
      have J3 := Lib.hid (I2.out.below hb); clear I2
      have B3 := Lib.hid (B2.out.trans (hb.mono B2.out.size)); clear hb B2
      go_wp2_with fail
      refine (sameInts_any _ _ _ pl _ _ _ pl _ J3.out I3.out).mono ?_
      rintro e w4 ⟨rfl, hd⟩
      have I4 := Lib.hid (I3.out.dr hd)
      have J4 := Lib.hid (J3.out.dr hd)
      have B4 := Lib.hid (B3.out.trans (hd.below _)); clear hd I3 J3 B3
      go_wp2_with fail
      refine (sameInts_any _ _ _ pl _ _ _ pl _ J4.out I4.out).mono ?_
      rintro e w5 ⟨rfl, hd⟩
      have B5 := Lib.hid (B4.out.trans (hd.below _)); clear hd
      go_wp2
      go_ret
      exact ⟨rfl, B5.out⟩
    · have HK := Lib.hid hok
      clear hpl hok
      by_cases hem : s.size = 0
      · have hempty : s.toList.isEmpty = true := by
          rw [ByteArray.toList_eq, List.isEmpty_iff_length_eq_zero, Array.length_toList]; exact hem
        have hem' : s.toList = [] := by simpa using hempty
        clear hem
        go_wp2_with fail
        refine (implParse_as s pl true _ (by omega) HP.out HK.out).mono ?_
        rintro e w2 ⟨a2, c2, rfl, ho, hb⟩
        have I2 := Lib.hid (IsInts.of_owned ho (by omega)); clear ho
        have B2 := Lib.hid (B1.out.trans (hb.mono B1.out.size)); clear hb B1
        go_wp2_with fail
        refine (specParse_as s pl true _ (by omega) HP.out HK.out).mono ?_
        rintro e w3 ⟨a3, c3, rfl, ho, hb⟩
        have I3 := Lib.hid (IsInts.of_owned ho (by omega)); clear ho
        have J3 := Lib.hid (I2.out.below hb); clear I2
        have B3 := Lib.hid (B2.out.trans (hb.mono B2.out.size)); clear hb B2
        go_wp2_with fail
        refine (sameInts_any _ _ _ pl _ _ _ pl _ J3.out I3.out).mono ?_
        rintro e w4 ⟨rfl, hd⟩
        have I4 := Lib.hid (I3.out.dr hd)
        have J4 := Lib.hid (J3.out.dr hd)
        have B4 := Lib.hid (B3.out.trans (hd.below _)); clear hd I3 J3 B3
        go_wp2_with fail
        refine (sameInts_any _ _ _ pl _ _ _ pl _ J4.out I4.out).mono ?_
        rintro e w5 ⟨rfl, hd⟩
        have B5 := Lib.hid (B4.out.trans (hd.below _)); clear hd
        go_wp2
        go_ret
        exact ⟨rfl, B5.out⟩
      · have hpos : 0 < s.size := by omega
        have hempty : s.toList.isEmpty = false := by
          rw [ByteArray.toList_eq]
          cases hx : s.data.toList with
          | nil => exact absurd (show s.size = 0 from by rw [← ByteArray.size_data, ← Array.length_toList, hx]; rfl) hem
          | cons b t => rfl
        have HA := Lib.hid (again_bad s hpos)
        have HFb := Lib.hid (f_bad s)
        have h1s : (1 : Int) ≤ (s.size : Int) := by omega
        have hx1 : (s.extract 0 1).size = 1 := by rw [ByteArray.size_extract]; omega
        have hsum1 : ¬ (s.size + (s.extract 0 1).size > 9223372036854775807) := by omega
        have HX1 := Lib.hid hx1
        clear hem hx1
        go_wp2_with fail
        refine (implParse_as s pl true _ (by omega) HP.out HK.out).mono ?_
        rintro e w2 ⟨a2, c2, rfl, ho, hb⟩
        have I2 := Lib.hid (IsInts.of_owned ho (by omega)); clear ho
        have B2 := Lib.hid (B1.out.trans (hb.mono B1.out.size)); clear hb B1
        go_wp2_with fail
        refine (specParse_as s pl true _ (by omega) HP.out HK.out).mono ?_
        rintro e w3 ⟨a3, c3, rfl, ho, hb⟩
        have I3 := Lib.hid (IsInts.of_owned ho (by omega)); clear ho
        have J3 := Lib.hid (I2.out.below hb); clear I2
        have B3 := Lib.hid (B2.out.trans (hb.mono B2.out.size)); clear hb B2
        go_wp2_with fail
        refine (sameInts_any _ _ _ pl _ _ _ pl _ J3.out I3.out).mono ?_
        rintro e w4 ⟨rfl, hd⟩
        have B4 := Lib.hid (B3.out.trans (hd.below _)); clear hd I3 J3 B3
        go_wp2_with fail
        refine (implParse_as _ [] false _ ?p1 ?p2 ?p3).mono ?_
        case p1 => rw [ByteArray.size_append, HX1.out]; omega
        case p2 => exact parseL_no HA.out
        case p3 => exact HA.out
        rintro e w5 ⟨a5, c5, rfl, ho, hb⟩
        have B5 := Lib.hid (B4.out.trans (hb.mono B4.out.size)); clear hb ho B4
        go_wp2_with fail
        refine (implParse_as _ [] false _ ?q1 ?q2 ?q3).mono ?_
        case q1 => rw [ByteArray.size_append]; show s.size + 1 ≤ _; omega
        case q2 => exact parseL_no HFb.out
        case q3 => exact HFb.out
        rintro e w6 ⟨a6, c6, rfl, ho, hb⟩
        have B6 := Lib.hid (B5.out.trans (hb.mono B5.out.size)); clear hb ho B5
        go_wp2
        go_ret
        exact ⟨rfl, B6.out⟩
  · have hl' : (1048576 : Int) < (len0 : Int) := by omega
    clear w0
    go_enter Try.func5, Try.ntmps5
    go_wp2
    go_ret
    exact ⟨rfl, Below.refl _ _⟩

end Go.Proofs.Ytppnngccjlnejaa.fnBallotTwice
