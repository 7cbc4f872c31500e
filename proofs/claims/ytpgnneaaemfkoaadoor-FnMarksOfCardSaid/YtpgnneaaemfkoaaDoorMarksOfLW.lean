/-
  laws.FnMarksOf returns true for every code: impl.MarksRead of the marks of a drawn ballot returns this ballot, and there is a mark for each candidate. Condition: math/bits' two tables lie as their initialisers lay them; the given tie shows that they do.
-/
import Derived.Test.YtpgnneaaemfkoaaDoorOpen
import Derived.Test.YtpgnneaaemfkoaaDoorTab
import Derived.Test.YtpgnneaaemfkoaaDoorReadI
import Derived.Test.YtpgnneaaemfkoaaDoorReadQ
import Derived.Test.YtpgnneaaemfkoaaDoorDrawR
import Derived.Test.YtpgnneaaemfkoaaDoorSame
import Derived.Test.YtpgnneaaemfkoaaDoorHas
namespace Go.Proofs.YtpgnneaaemfkoaaDoor.fnMarksOfCard
open Go.RowKit
set_option linter.unusedVariables false


set_option maxHeartbeats 2000000 in
/-- The law's walk: it returns true, and writes nothing that was there. -/
theorem walk (a0 : Option Addr) (len0 cap0 : Nat) (z0 : List Int) (w : World) (w0 : IsRow .u8 w a0 len0 cap0 z0) (hT0 : Tab w) :
    Calls Tryd.prog 3 #[.slice a0 len0 cap0] w fun e w' => e = .returned (.bool true) ∧ Below w.heap.size w w' := by
  by_cases hl : len0 ≤ 1048576
  · have hcap := w0.cap
    have HB := Lib.hid w0.bytes
    have HT := Lib.hid hT0
    clear w0 hT0
    go_enter Tryd.func3, Tryd.ntmps3
    go_wp2_with fail
    refine (drawOf_any a0 len0 cap0 _ _ HB.out hcap (by omega)).mono ?_
    rintro e w1 ⟨b, a1, c1, n, rfl, ho, hz, hb⟩
    have I1 := Lib.hid (IsInts.of_owned ho (by omega)); clear ho
    have T1 := Lib.hid (HT.out.below hb)
    have B1 := Lib.hid hb; clear hb HB HT
    obtain ⟨pl, hpl⟩ : ∃ pl, markOfL b n = pl := ⟨_, rfl⟩
    obtain ⟨ok, hok⟩ : ∃ ok, validB b n = ok := ⟨_, rfl⟩
    have hp5 : pl.length ≤ 5 := by rw [← hpl]; exact markOfL_short b n
    have HP := Lib.hid hpl
    have HK := Lib.hid hok
    clear hpl hok
    have he : eqB pl pl = true := eqB_self pl
    have heb : eqB b b = true := eqB_self b
    have hne : (ok != ok) = false := by cases ok <;> rfl
    have heq : (ok == ok) = true := by cases ok <;> rfl
    go_wp2_with fail
    refine (implMarksOf_as _ _ _ b n pl ok _ I1.out HP.out HK.out).mono ?_
    rintro e w2 ⟨a2, c2, rfl, ho, hb⟩
    have I2 := Lib.hid (IsInts.of_owned ho (by omega)); clear ho
    have J2 := Lib.hid (I1.out.below hb)
    have T2 := Lib.hid (T1.out.below hb)
    have B2 := Lib.hid (B1.out.trans (hb.mono B1.out.size)); clear hb I1 B1 T1
    go_wp2_with fail
    refine (specMarksOf_as _ _ _ b n pl ok _ J2.out HP.out HK.out).mono ?_
    rintro e w3 ⟨a3, c3, rfl, ho, hb⟩
    have I3 := Lib.hid (IsInts.of_owned ho (by omega)); clear ho
    have I2 := Lib.hid (I2.out.below hb)
    have J3 := Lib.hid (J2.out.below hb)
    have T3 := Lib.hid (T2.out.below hb)
    have B3 := Lib.hid (B2.out.trans (hb.mono B2.out.size)); clear hb J2 B2 T2
    go_wp2_with fail
    refine (sameInts_any _ _ _ pl _ _ _ pl _ I2.out I3.out).mono ?_
    rintro e w4 ⟨rfl, hd⟩
    have I2 := Lib.hid (I2.out.dr hd)
    have I3 := Lib.hid (I3.out.dr hd)
    have J4 := Lib.hid (J3.out.dr hd)
    have T4 := Lib.hid (T3.out.below (hd.below _))
    have B4 := Lib.hid (B3.out.trans (hd.below _)); clear hd B3 J3 T3
    cases hk : ok
    · subst hk
      go_wp2_with fail
      refine (sameInts_any _ _ _ pl _ _ _ pl _ I2.out I3.out).mono ?_
      rintro e w5 ⟨rfl, hd⟩
      have B5 := Lib.hid (B4.out.trans (hd.below _)); clear hd B4
      go_wp2
      go_ret
      exact ⟨rfl, B5.out⟩
    · subst hk
      obtain ⟨hrk, hrd, hln⟩ := read_of HK.out
      rw [HP.out] at hrk hrd hln
      have hnl : ((pl.length : Int) == n) = true := by simpa using hln
      have HRK := Lib.hid hrk
      have HRD := Lib.hid hrd
      clear hrk hrd hln
      go_wp2_with fail
      refine (implRead_as _ _ _ pl b true _ I2.out T4.out HRD.out HRK.out).mono ?_
      rintro e w5 ⟨a5, c5, rfl, ho, hb⟩
      have I5 := Lib.hid (IsInts.of_owned ho (by omega)); clear ho
      have J5 := Lib.hid (J4.out.below hb)
      have B5 := Lib.hid (B4.out.trans (hb.mono B4.out.size)); clear hb J4 B4
      go_wp2_with fail
      refine (sameInts_any _ _ _ b _ _ _ b _ I5.out J5.out).mono ?_
      rintro e w6 ⟨rfl, hd⟩
      have B6 := Lib.hid (B5.out.trans (hd.below _)); clear hd B5
      go_wp2
      go_ret
      exact ⟨rfl, B6.out⟩
  · have hl' : (1048576 : Int) < (len0 : Int) := by omega
    clear w0 hT0
    go_enter Tryd.func3, Tryd.ntmps3
    go_wp2
    go_ret
    exact ⟨rfl, Below.refl _ _⟩

end Go.Proofs.YtpgnneaaemfkoaaDoor.fnMarksOfCard
