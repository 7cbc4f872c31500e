/-
  laws.FnLots returns true for every code: impl.LotsOf answers as the model does at the drawn numbers; it succeeds exactly in range, its lots are valid and begin as the seed says. No condition but what the statement says itself (a code of at most 2^20 bytes).
-/
import Derived.Test.YtapmmbngfklahaaOpen
import Derived.Test.YtapmmbngfklahaaLotN
import Derived.Test.YtapmmbngfklahaaLotOS
import Derived.Test.YtapmmbngfklahaaLotOI
import Derived.Test.YtapmmbngfklahaaLotD
import Derived.Test.YtapmmbngfklahaaSame
import Derived.Test.YtapmmbngfklahaaQB
namespace Go.Proofs.Ytapmmbngfklahaa.fnLots
open Go.RowKit
set_option linter.unusedVariables false


set_option maxRecDepth 100000 in
set_option maxHeartbeats 2000000 in
/-- The law's walk: it returns true, and writes nothing that was there. -/
theorem walk (a0 : Option Addr) (len0 cap0 : Nat) (z0 : List Int) (w : World) (w0 : IsRow .u8 w a0 len0 cap0 z0) :
    Calls Try.prog 3 #[.slice a0 len0 cap0] w fun e w' => e = .returned (.bool true) ∧ Below w.heap.size w w' := by
  by_cases hl : len0 ≤ 1048576
  · have hcap := w0.cap
    have HB := Lib.hid w0.bytes; clear w0
    go_enter Try.func3, Try.ntmps3
    go_wp2_with fail
    refine (drawLotsOf_any a0 len0 cap0 _ _ HB.out hcap (by omega)).mono ?_
    rintro e w1 ⟨x, y, rfl, hx, hy, hb⟩
    have B1 := Lib.hid hb; clear hb HB
    obtain ⟨pl, hpl⟩ : ∃ pl, lotsI x y = pl := ⟨_, rfl⟩
    obtain ⟨ok, hok⟩ : ∃ ok, okLots x y = ok := ⟨_, rfl⟩
    have hp5 : pl.length ≤ 5 := by rw [← hpl]; exact lotsI_short x y
    have HP := Lib.hid hpl
    have HK := Lib.hid hok
    clear hpl hok
    have he : eqB pl pl = true := eqB_self pl
    have hne : (ok != ok) = false := by cases ok <;> rfl
    have heq : (ok == ok) = true := by cases ok <;> rfl
    go_wp2_with fail
    refine (implLotsOf_as _ _ pl ok _ HP.out HK.out).mono ?_
    rintro e w2 ⟨a2, c2, rfl, ho, hb⟩
    have O2 := Lib.hid ho; clear ho
    have B2 := Lib.hid (B1.out.trans (hb.mono B1.out.size)); clear hb B1
    go_wp2_with fail
    refine (specLotsOf_as _ _ pl ok _ HP.out HK.out).mono ?_
    rintro e w3 ⟨a3, c3, rfl, ho, hb⟩
    have I3 := Lib.hid (IsInts.of_owned ho (by omega)); clear ho
    have O2 := Lib.hid (owns_under O2.out hb)
    have B3 := Lib.hid (B2.out.trans (hb.mono B2.out.size)); clear hb B2
    go_wp2_with fail
    refine (sameInts_any _ _ _ pl _ _ _ pl _ (IsInts.of_owned O2.out (by omega)) I3.out).mono ?_
    rintro e w4 ⟨rfl, hd⟩
    have O2 := Lib.hid (owns_under O2.out (hd.below _))
    have I3 := Lib.hid (I3.out.dr hd)
    have B4 := Lib.hid (B3.out.trans (hd.below _)); clear hd B3
    cases hk : ok
    · subst hk
      have hcase : (x < 1 ∨ 5 < x) ∨ (y < 0 ∨ 999 < y) := by
        have hh := HK.out
        rcases Int.lt_or_le x 1 with h | h
        · exact .inl (.inl h)
        rcases Int.lt_or_le 5 x with h' | h'
        · exact .inl (.inr h')
        rcases Int.lt_or_le y 0 with g | g
        · exact .inr (.inl g)
        rcases Int.lt_or_le 999 y with g' | g'
        · exact .inr (.inr g')
        rw [okLots_yes h h' g g'] at hh
        cases hh
      rcases hcase with (h | h) | (h | h)
      case' inl.inl => have q1 : decide (1 ≤ x) = false := decide_eq_false (by omega)
      case' inl.inr => have q1 : decide (1 ≤ x) = true := decide_eq_true (by omega); have q2 : decide (x ≤ 5) = false := decide_eq_false (by omega)
      case' inr.inl => have q3 : decide (0 ≤ y) = false := decide_eq_false (by omega); by_cases h1 : 1 ≤ x; by_cases h5 : x ≤ 5
      case' inr.inr => have q3 : decide (0 ≤ y) = true := decide_eq_true (by omega); have q4 : decide (y ≤ 999) = false := decide_eq_false (by omega); by_cases h1 : 1 ≤ x; by_cases h5 : x ≤ 5
      all_goals
        go_wp2_with fail
        refine wp_region_below (by kernel_rfl) (by kernel_rfl) ?_
        repeat (go_big_quiet_step ((go_at_call 17; exact Calls.beh (implLots_as _ _ _ pl true _ (JI.out.below (Beh.below _)) HV.out))))
        refine wpQuiet_nil ?_
        rintro _ ⟨⟨w5, hb5⟩, rfl⟩
        have B5 := B4.out.trans (hb5.mono B4.out.size)
        go_wp2
        go_ret
        exact ⟨rfl, B5⟩
    · subst hk
      obtain ⟨⟨hx1, hx5⟩, hy0, hy9⟩ := okLots_of HK.out
      have HV : Hid (lotsB pl = true) := by unfold Hid; rw [← HP.out]; exact lotsI_valid HK.out
      have hle : (pl.length : Int) = x := by rw [← HP.out]; exact lotsI_length HK.out
      have hhd : pl[0]?.getD 0 = y % x := by rw [← HP.out]; exact lotsI_head HK.out
      obtain ⟨n, rfl⟩ := Int.eq_ofNat_of_zero_le (show 0 ≤ x by omega)
      obtain ⟨s, rfl⟩ := Int.eq_ofNat_of_zero_le hy0
      have hnl : pl.length = n := by omega
      have JI := Lib.hid (IsInts.of_owned O2.out (by omega))
      obtain ⟨g, rfl, hg2, -, -⟩ := owned_at O2.out (by omega)
      have hcell : w4.cell? ⟨g, 0, none⟩ = some (.int .i64 (pl[0]?.getD 0)) := by
        rw [O2.out.cellAt 0 (by omega)]; simp [show 0 < pl.length by omega]
      obtain ⟨z, hz⟩ : ∃ z, pl[0]?.getD 0 = z := ⟨_, rfl⟩
      rw [hz] at hcell hhd
      have u0 : ∀ u : Beh w4, u.w.cell? ⟨g, 0, none⟩ = some (.int .i64 z) := Beh.cell hcell hg2
      have q1 : decide ((1 : Int) ≤ (n : Int)) = true := decide_eq_true (by omega)
      have q1' : decide (1 ≤ n) = true := decide_eq_true (by omega)
      have q2 : decide ((n : Int) ≤ 5) = true := decide_eq_true (by omega)
      have q4 : decide ((s : Int) ≤ 999) = true := decide_eq_true (by omega)
      have q5 : ((pl.length : Int) == (n : Int)) = true := by simp [hnl]
      have q6 : (z == (s : Int) % (n : Int)) = true := by rw [hhd]; simp
      have hkz : ((n : Int) == 0) = false := beq_eq_false_iff_ne.2 (by omega)
      have hpl0 : (0 : Int) < (pl.length : Int) := by omega
      clear hz hhd hle hnl hcell
      go_wp2_with fail
      refine wp_region_below (by kernel_rfl) (by kernel_rfl) ?_
      repeat (go_big_quiet_step ((go_at_call 17; exact Calls.beh (implLots_as _ _ _ pl true _ (JI.out.below (Beh.below _)) HV.out))))
      refine wpQuiet_nil ?_
      rintro _ ⟨⟨w5, hb5⟩, rfl⟩
      have B5 := B4.out.trans (hb5.mono B4.out.size)
      go_wp2
      go_ret
      exact ⟨rfl, B5⟩
  · have hl' : (1048576 : Int) < (len0 : Int) := by omega
    clear w0
    go_enter Try.func3, Try.ntmps3
    go_wp2
    go_ret
    exact ⟨rfl, Below.refl _ _⟩

end Go.Proofs.Ytapmmbngfklahaa.fnLots
