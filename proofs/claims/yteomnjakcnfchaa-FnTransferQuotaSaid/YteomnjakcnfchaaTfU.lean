/-
  TransferQuota of both sides: what it answers at all numbers; it writes into no memory.
-/
import Derived.Test.YteomnjakcnfchaaBase
import Derived.Test.YteomnjakcnfchaaLotQ
namespace Go.Proofs.Yteomnjakcnfchaa
open Go.RowKit

def quoB (t s : Int) : Bool := inB t 0 60 && inB s 1 2
def quoR (t s : Int) : Int := if quoB t s = true then t / (s + 1) + 1 else -1
theorem quoB_iff (t s : Int) : quoB t s = true ↔ (0 ≤ t ∧ t ≤ 60) ∧ 1 ≤ s ∧ s ≤ 2 := by simp [quoB, inB]
theorem quoR_yes {t s : Int} (h : quoB t s = true) : quoR t s = t / (s + 1) + 1 := by rw [quoR, if_pos h]
theorem quoR_no {t s : Int} (h : quoB t s = false) : quoR t s = -1 := by rw [quoR, h]; rfl
theorem quoR_range {t s : Int} (h : quoB t s = true) : 1 ≤ quoR t s ∧ quoR t s ≤ 31 := by
  rw [quoR_yes h]
  have := (quoB_iff t s).1 h
  have hs : s = 1 ∨ s = 2 := by omega
  rcases hs with rfl | rfl <;> omega
theorem quoR_neg {t s : Int} : quoR t s < 0 ↔ quoB t s = false := by
  cases h : quoB t s
  · rw [quoR_no h]; simp
  · have := quoR_range h
    constructor
    · intro h2; omega
    · intro h2; cases h2

set_option maxRecDepth 100000 in
set_option maxHeartbeats 2000000 in
/-- **spec.TransferQuota**. -/
theorem specQuota_as (t s r : Int) (w : World) (hr : quoR t s = r) :
    Calls Try.prog 17 #[.int .i64 t, .int .i64 s] w fun e w' => e = .returned (.int .i64 r) ∧ w = w' := by
  subst hr
  cases h1 : inB t 0 60
  · have HQ : Hid (quoR t s = -1) := quoR_no (by rw [quoB, h1]; rfl)
    have H1 := Lib.hid h1; clear h1
    go_enter Try.func17, Try.ntmps17
    go_wp2_with fail
    refine (l6In_any _ _ _ _).mono ?_
    rintro e w1 ⟨he, rfl⟩
    rw [H1.out] at he
    subst he
    go_wp2
    go_ret
    exact ⟨ret_int HQ.out.symm, rfl⟩
  · cases h2 : inB s 1 2
    · have HQ : Hid (quoR t s = -1) := quoR_no (by rw [quoB, h1, h2]; rfl)
      have H1 := Lib.hid h1; clear h1
      have H2 := Lib.hid h2; clear h2
      go_enter Try.func17, Try.ntmps17
      go_wp2_with fail
      refine (l6In_any _ _ _ _).mono ?_
      rintro e w1 ⟨he, rfl⟩
      rw [H1.out] at he
      subst he
      go_wp2_with fail
      refine (l6In_any _ _ _ _).mono ?_
      rintro e w1 ⟨he, rfl⟩
      rw [H2.out] at he
      subst he
      go_wp2
      go_ret
      exact ⟨ret_int HQ.out.symm, rfl⟩
    · have hb : quoB t s = true := by rw [quoB, h1, h2]; rfl
      have hr := (quoB_iff t s).1 hb
      have HQ : Hid (quoR t s = t / (s + 1) + 1) := quoR_yes hb
      have hz : (s + 1 == 0) = false := beq_eq_false_iff_ne.2 (by omega)
      have hd : t.tdiv (s + 1) = t / (s + 1) := Int.tdiv_eq_ediv_of_nonneg (by omega)
      have hd2 : 0 ≤ t / (s + 1) ∧ t / (s + 1) ≤ 60 := by
        have hs : s = 1 ∨ s = 2 := by omega
        rcases hs with rfl | rfl <;> omega
      have H1 := Lib.hid h1; clear h1
      have H2 := Lib.hid h2; clear h2
      clear hb
      obtain ⟨d, hde⟩ : ∃ d, t / (s + 1) = d := ⟨_, rfl⟩
      rw [hde] at hd hd2 HQ
      have hwd : IntKind.i64.wrap d = d := IntWalk.i64_in _ (by omega)
      go_enter Try.func17, Try.ntmps17
      go_wp2_with fail
      refine (l6In_any _ _ _ _).mono ?_
      rintro e w1 ⟨he, rfl⟩
      rw [H1.out] at he
      subst he
      go_wp2_with fail
      refine (l6In_any _ _ _ _).mono ?_
      rintro e w1 ⟨he, rfl⟩
      rw [H2.out] at he
      subst he
      go_wp2
      go_ret
      exact ⟨ret_int HQ.out.symm, rfl⟩

set_option maxRecDepth 100000 in
set_option maxHeartbeats 2000000 in
/-- **impl.TransferQuota**. -/
theorem implQuota_as (t s r : Int) (w : World) (hr : quoR t s = r) :
    Calls Try.prog 16 #[.int .i64 t, .int .i64 s] w fun e w' => e = .returned (.int .i64 r) ∧ w = w' := by
  subst hr
  by_cases h1 : t < 0
  · have HQ : Hid (quoR t s = -1) := quoR_no (by simp [quoB, inB]; omega)
    have d1 : decide (t < 0) = true := decide_eq_true h1
    go_enter Try.func16, Try.ntmps16
    go_wp2
    go_ret
    exact ⟨ret_int HQ.out.symm, rfl⟩
  · have d1 : decide (t < 0) = false := decide_eq_false h1
    by_cases h2 : 60 < t
    · have HQ : Hid (quoR t s = -1) := quoR_no (by simp [quoB, inB]; omega)
      have d2 : decide (60 < t) = true := decide_eq_true h2
      go_enter Try.func16, Try.ntmps16
      go_wp2
      go_ret
      exact ⟨ret_int HQ.out.symm, rfl⟩
    · have d2 : decide (60 < t) = false := decide_eq_false h2
      by_cases h3 : s < 1
      · have HQ : Hid (quoR t s = -1) := quoR_no (by simp [quoB, inB]; omega)
        have d3 : decide (s < 1) = true := decide_eq_true h3
        go_enter Try.func16, Try.ntmps16
        go_wp2
        go_ret
        exact ⟨ret_int HQ.out.symm, rfl⟩
      · have d3 : decide (s < 1) = false := decide_eq_false h3
        by_cases h4 : 2 < s
        · have HQ : Hid (quoR t s = -1) := quoR_no (by simp [quoB, inB]; omega)
          have d4 : decide (2 < s) = true := decide_eq_true h4
          go_enter Try.func16, Try.ntmps16
          go_wp2
          go_ret
          exact ⟨ret_int HQ.out.symm, rfl⟩
        · have d4 : decide (2 < s) = false := decide_eq_false h4
          have hb : quoB t s = true := (quoB_iff t s).2 (by omega)
          have HQ : Hid (quoR t s = t / (s + 1) + 1) := quoR_yes hb
          have hz : (s + 1 == 0) = false := beq_eq_false_iff_ne.2 (by omega)
          have hd : t.tdiv (s + 1) = t / (s + 1) := Int.tdiv_eq_ediv_of_nonneg (by omega)
          have hd2 : 0 ≤ t / (s + 1) ∧ t / (s + 1) ≤ 60 := by
            have hs : s = 1 ∨ s = 2 := by omega
            rcases hs with rfl | rfl <;> omega
          clear hb
          obtain ⟨d, hde⟩ : ∃ d, t / (s + 1) = d := ⟨_, rfl⟩
          rw [hde] at hd hd2 HQ
          have hwd : IntKind.i64.wrap d = d := IntWalk.i64_in _ (by omega)
          go_enter Try.func16, Try.ntmps16
          go_wp2
          go_ret
          exact ⟨ret_int HQ.out.symm, rfl⟩

end Go.Proofs.Yteomnjakcnfchaa
