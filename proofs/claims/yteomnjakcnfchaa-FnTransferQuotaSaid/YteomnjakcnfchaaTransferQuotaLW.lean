/-
  laws.FnTransferQuota returns true for every code: impl.TransferQuota answers as the model does at the drawn numbers, and it is more than the part of the ballots that each seat and one more would have, and one less is not. No condition but what the statement says itself (a code of at most 2^20 bytes).
-/
import Derived.Test.YteomnjakcnfchaaOpen
import Derived.Test.YteomnjakcnfchaaTfU
import Derived.Test.YteomnjakcnfchaaTfDq
import Derived.Test.YteomnjakcnfchaaTransQ
namespace Go.Proofs.Yteomnjakcnfchaa.fnTransferQuota
open Go.RowKit
set_option linter.unusedVariables false


set_option maxRecDepth 100000 in
set_option maxHeartbeats 2000000 in
/-- The law's walk: it returns true, and writes nothing that was there. -/
theorem walk (a0 : Option Addr) (len0 cap0 : Nat) (z0 : List Int) (w : World) (w0 : IsRow .u8 w a0 len0 cap0 z0) :
    Calls Try.prog 3 #[.slice a0 len0 cap0] w fun e w' => e = .returned (.bool true) ∧ Below w.heap.size w w' := by
  by_cases hl : len0 ≤ 1048576
  · have hcap := w0.cap
    have HB := Lib.hid w0.bytes; clear w0
    go_enter Try.func3, Try.ntmps3
    go_wp2_with fail
    refine (drawQuota_any a0 len0 cap0 _ _ HB.out hcap (by omega)).mono ?_
    rintro e w1 ⟨t, s, rfl, ht, hs, hb⟩
    have B := Lib.hid hb
    clear hb HB
    obtain ⟨v, hv⟩ : ∃ v, quoR t s = v := ⟨_, rfl⟩
    have Hv := Lib.hid hv
    have hne : (v != v) = false := by simp
    have heq : (v == v) = true := by simp
    go_wp2_with fail
    refine (implQuota_as t s v _ Hv.out).mono ?_
    rintro e w2 ⟨rfl, rfl⟩
    go_wp2_with fail
    refine (specQuota_as t s v _ Hv.out).mono ?_
    rintro e w2 ⟨rfl, rfl⟩
    by_cases hneg : v < 0
    · have hd : decide (v < 0) = true := decide_eq_true hneg
      clear hv
      go_wp2
      go_ret
      exact ⟨rfl, B.out⟩
    · have hd : decide (v < 0) = false := decide_eq_false hneg
      have hq : quoB t s = true := by
        cases h : quoB t s
        · exact absurd (quoR_neg.2 h) (by rw [hv]; exact hneg)
        · rfl
      have hr := quoR_range hq
      have hy := quoR_yes hq
      have hi := (quoB_iff t s).1 hq
      have hlaw := quota_t (t := t) (s := s) (by omega)
      rw [hv] at hr hy
      rw [← hy, show t / (s + 1) = v - 1 by omega] at hlaw
      have hm : 0 ≤ v * (s + 1) ∧ v * (s + 1) ≤ 31 * 3 := ⟨Int.mul_nonneg (by omega) (by omega), Int.le_trans (Int.mul_le_mul_of_nonneg_right hr.2 (by omega)) (Int.mul_le_mul_of_nonneg_left (by omega) (by omega))⟩
      have hm2 : 0 ≤ (v - 1) * (s + 1) ∧ (v - 1) * (s + 1) ≤ 30 * 3 := ⟨Int.mul_nonneg (by omega) (by omega), Int.le_trans (Int.mul_le_mul_of_nonneg_right (by omega) (by omega)) (Int.mul_le_mul_of_nonneg_left (by omega) (by omega))⟩
      have d1 : decide (t < v * (s + 1)) = true := decide_eq_true hlaw.1
      have d2 : decide ((v - 1) * (s + 1) ≤ t) = true := decide_eq_true hlaw.2
      have w1 : IntKind.i64.wrap (v * (s + 1)) = v * (s + 1) := IntWalk.i64_in _ (by omega)
      have w2 : IntKind.i64.wrap ((v - 1) * (s + 1)) = (v - 1) * (s + 1) := IntWalk.i64_in _ (by omega)
      clear hv hq hy hlaw
      go_wp2
      go_ret
      exact ⟨rfl, B.out⟩
  · clear w0
    go_enter Try.func3, Try.ntmps3
    go_wp2
    go_ret
    exact ⟨rfl, Below.refl _ _⟩

end Go.Proofs.Yteomnjakcnfchaa.fnTransferQuota
