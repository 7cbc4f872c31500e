/-
  laws.FnMarksAgreeOne returns true for every code: of the drawn readers, what they agree on is returned again for one, and for three readers who have read just that. No condition.
-/
import Derived.Test.YtpgnneaaemfkoaaOpen
import Derived.Test.YtpgnneaaemfkoaaAgreeI
import Derived.Test.YtpgnneaaemfkoaaDrawG
import Derived.Test.YtpgnneaaemfkoaaSame
namespace Go.Proofs.Ytpgnneaaemfkoaa.fnMarksAgreeOne
open Go.RowKit
set_option linter.unusedVariables false

/-- A literal of n copies of one row. -/
theorem rows_lit {w : World} {b : Option Addr} {l c : Nat} {pl : List Int} (h : IsInts w b l c pl) (t : TypeId) (n : Nat) (h1 : 1 ≤ n) (hn : n ≤ 5) : IsRows (w.alloc (.cells (Array.replicate n (.slice b l c)) t)) (some ⟨w.heap.size, 0, none⟩) n n (List.replicate n pl) := by
  refine ⟨by simp, Nat.le_refl _, by omega, fun _ => ⟨w.heap.size, 0, rfl, by simp, fun j hj => ⟨b, l, c, ?_, ?_⟩⟩⟩
  · rw [Nat.zero_add]
    exact (World.cell?_alloc_mark w _ t (0, 0) j).trans (by simp [hj])
  · have e : (List.replicate n pl)[j]?.getD [] = pl := by simp [hj]
    rw [e]
    exact h.below ((Below.refl _ w).alloc (Nat.le_refl _) _)

set_option maxHeartbeats 2000000 in
/-- The law's walk: it returns true, and writes nothing that was there. -/
theorem walk (a0 : Option Addr) (len0 cap0 : Nat) (z0 : List Int) (w : World) (w0 : IsRow .u8 w a0 len0 cap0 z0) :
    Calls Try.prog 5 #[.slice a0 len0 cap0] w fun e w' => e = .returned (.bool true) ∧ Below w.heap.size w w' := by
  by_cases hl : len0 ≤ 1048576
  · have hcap := w0.cap
    have HB := Lib.hid w0.bytes; clear w0
    go_enter Try.func5, Try.ntmps5
    go_wp2_with fail
    refine (drawAgree_any a0 len0 cap0 _ _ HB.out hcap (by omega)).mono ?_
    rintro e w1 ⟨rs, a1, c1, rfl, hI, hz, hb⟩
    have I1 := Lib.hid hI; clear hI
    have B1 := Lib.hid hb; clear hb HB
    obtain ⟨pl, hpl⟩ : ∃ pl, agreeL rs = pl := ⟨_, rfl⟩
    obtain ⟨ok, hok⟩ : ∃ ok, agreeB rs = ok := ⟨_, rfl⟩
    have hp5 : pl.length ≤ 5 := by rw [← hpl]; exact agreeL_short rs
    have HP := Lib.hid hpl
    have HK := Lib.hid hok
    clear hpl hok
    have he : eqB pl pl = true := eqB_self pl
    have hne : (ok != ok) = false := by cases ok <;> rfl
    have heq : (ok == ok) = true := by cases ok <;> rfl
    go_wp2_with fail
    refine (implAgree_as _ _ _ rs pl ok _ I1.out HP.out HK.out).mono ?_
    rintro e w2 ⟨a2, c2, rfl, ho, hb⟩
    have I2 := Lib.hid (IsInts.of_owned ho (by omega)); clear ho
    have J2 := Lib.hid (I1.out.below hb)
    have B2 := Lib.hid (B1.out.trans (hb.mono B1.out.size)); clear hb I1 B1
    go_wp2_with fail
    refine (specAgree_as _ _ _ rs pl ok _ J2.out HP.out HK.out).mono ?_
    rintro e w3 ⟨a3, c3, rfl, ho, hb⟩
    have I3 := Lib.hid (IsInts.of_owned ho (by omega)); clear ho
    have I2 := Lib.hid (I2.out.below hb)
    have B3 := Lib.hid (B2.out.trans (hb.mono B2.out.size)); clear hb J2 B2
    go_wp2_with fail
    refine (sameInts_any _ _ _ pl _ _ _ pl _ I2.out I3.out).mono ?_
    rintro e w4 ⟨rfl, hd⟩
    have I2 := Lib.hid (I2.out.dr hd)
    have I3 := Lib.hid (I3.out.dr hd)
    have B4 := Lib.hid (B3.out.trans (hd.below _)); clear hd B3
    cases hk : ok
    · subst hk
      go_wp2_with fail
      refine (sameInts_any _ _ _ pl _ _ _ pl _ I2.out I3.out).mono ?_
      rintro e w5 ⟨rfl, hd⟩
      have B5 := Lib.hid (B4.out.trans (hd.below _)); clear hd B4
      go_wp2
      go_ret
      exact ⟨rfl, B5.out⟩
    · subst hk
      have hrk : rankB pl = true := by rw [← HP.out]; exact agreed_rank HK.out
      have A1 := Lib.hid (agree_same hrk 1 (by omega) (by omega))
      have A3 := Lib.hid (agree_same hrk 3 (by omega) (by omega))
      clear hrk
      have L5 := Lib.hid (rows_lit I2.out 25 1 (by omega) (by omega))
      have hu : Below w4.heap.size w4 (w4.alloc (.cells #[.slice a2 pl.length c2] 25)) := (Below.refl _ w4).alloc (Nat.le_refl _) _
      have I2' := Lib.hid (I2.out.below hu)
      have B4' := Lib.hid (B4.out.trans (hu.mono B4.out.size))
      clear hu
      go_wp2_with fail
      refine (implAgree_as _ _ _ (List.replicate 1 pl) pl true _ L5.out A1.out.2 A1.out.1).mono ?_
      rintro e w6 ⟨a6, c6, rfl, ho, hb⟩
      have X6 := Lib.hid (IsInts.of_owned ho (by omega)); clear ho
      have I6 := Lib.hid (I2'.out.below hb)
      have B6 := Lib.hid (B4'.out.trans (hb.mono B4'.out.size)); clear hb L5 I2' B4' B4
      have L7 := Lib.hid (rows_lit I6.out 25 3 (by omega) (by omega))
      have hu : Below w6.heap.size w6 (w6.alloc (.cells #[.slice a2 pl.length c2, .slice a2 pl.length c2, .slice a2 pl.length c2] 25)) := (Below.refl _ w6).alloc (Nat.le_refl _) _
      have I6' := Lib.hid (I6.out.below hu)
      have X6' := Lib.hid (X6.out.below hu)
      have B6' := Lib.hid (B6.out.trans (hu.mono B6.out.size))
      clear hu
      go_wp2_with fail
      refine (implAgree_as _ _ _ (List.replicate 3 pl) pl true _ L7.out A3.out.2 A3.out.1).mono ?_
      rintro e w8 ⟨a8, c8, rfl, ho, hb⟩
      have Y8 := Lib.hid (IsInts.of_owned ho (by omega)); clear ho
      have X8 := Lib.hid (X6'.out.below hb)
      have I8 := Lib.hid (I6'.out.below hb)
      have B8 := Lib.hid (B6'.out.trans (hb.mono B6'.out.size)); clear hb L7 I6' X6' B6' I6 X6 B6
      go_wp2_with fail
      refine (sameInts_any _ _ _ pl _ _ _ pl _ X8.out I8.out).mono ?_
      rintro e w9 ⟨rfl, hd⟩
      have I9 := Lib.hid (I8.out.dr hd)
      have Y9 := Lib.hid (Y8.out.dr hd)
      have B9 := Lib.hid (B8.out.trans (hd.below _)); clear hd B8 I8 Y8 X8
      go_wp2_with fail
      refine (sameInts_any _ _ _ pl _ _ _ pl _ Y9.out I9.out).mono ?_
      rintro e w10 ⟨rfl, hd⟩
      have B10 := Lib.hid (B9.out.trans (hd.below _)); clear hd B9
      go_wp2
      go_ret
      exact ⟨rfl, B10.out⟩
  · have hl' : (1048576 : Int) < (len0 : Int) := by omega
    clear w0
    go_enter Try.func5, Try.ntmps5
    go_wp2
    go_ret
    exact ⟨rfl, Below.refl _ _⟩

end Go.Proofs.Ytpgnneaaemfkoaa.fnMarksAgreeOne
