/-
  laws.FnLotsSeal returns true for every code and every further text: impl.LotsSeal answers as the model does at the drawn seed and secret, and another seed, or another secret, has another seal. No condition but what the statement says itself (texts of at most 2^20 bytes).
-/
import Derived.Test.YtapmmbngfklahaaOpen
import Derived.Test.YtapmmbngfklahaaLotS
import Derived.Test.YtapmmbngfklahaaLotI
import Derived.Test.YtapmmbngfklahaaLotD
namespace Go.Proofs.Ytapmmbngfklahaa.fnLotsSeal
open Go.RowKit
set_option linter.unusedVariables false


set_option maxRecDepth 100000 in
set_option maxHeartbeats 2000000 in
/-- The law's walk: it returns true, and writes nothing that was there. -/
theorem walk (a0 : Option Addr) (len0 cap0 : Nat) (z0 : List Int) (a1 : Option Addr) (len1 cap1 : Nat) (z1 : List Int) (w : World) (w0 : IsRow .u8 w a0 len0 cap0 z0) (w1 : IsRow .u8 w a1 len1 cap1 z1) :
    Calls Try.prog 8 #[.slice a0 len0 cap0, .slice a1 len1 cap1] w fun e w' => e = .returned (.bool true) ∧ Below w.heap.size w w' := by
  by_cases hl : len0 ≤ 1048576
  · by_cases hl1 : len1 ≤ 1048576
    · have hcap := w0.cap
      have HB := Lib.hid w0.bytes; clear w0 w1
      go_enter Try.func8, Try.ntmps8
      go_wp2_with fail
      refine (drawLotsSeal_any a0 len0 cap0 _ _ HB.out hcap (by omega)).mono ?_
      rintro e w1 ⟨x, y, rfl, hx, hy, hb⟩
      have B1 := Lib.hid hb; clear hb HB
      obtain ⟨v, hv⟩ : ∃ v, sealB x y = v := ⟨_, rfl⟩
      have Hv := Lib.hid hv
      have hneg := sealB_neg (a := x) (b := y)
      rw [hv] at hneg
      have HN := Lib.hid hneg
      clear hv hneg
      have hne : (v != v) = false := by simp
      have heq : (v == v) = true := by simp
      go_wp2_with fail
      refine (implSeal_any _ _ _).mono ?_
      rintro e w' ⟨he, rfl⟩
      rw [Hv.out] at he
      subst he
      go_wp2_with fail
      refine (specSeal_any _ _ _).mono ?_
      rintro e w' ⟨he, rfl⟩
      rw [Hv.out] at he
      subst he
      by_cases hv0 : v < 0
      · have hd : decide (v < 0) = true := decide_eq_true hv0
        go_wp2
        go_ret
        exact ⟨rfl, B1.out⟩
      · have hd : decide (v < 0) = false := decide_eq_false hv0
        have hin : (0 ≤ x ∧ x ≤ 999) ∧ 0 ≤ y ∧ y ≤ 999 := by
          have := HN.out
          omega
        obtain ⟨⟨hx0, hx9⟩, hy0, hy9⟩ := hin
        obtain ⟨p, rfl⟩ := Int.eq_ofNat_of_zero_le hx0
        obtain ⟨r, rfl⟩ := Int.eq_ofNat_of_zero_le hy0
        obtain ⟨t, ht⟩ : ∃ t, len1 % 999 = t := ⟨_, rfl⟩
        have ht9 : t < 999 := by rw [← ht]; exact Nat.mod_lt _ (by omega)
        have hti : (len1 : Int) % 999 = (t : Int) := by omega
        obtain ⟨s, hs⟩ : ∃ s, (p + 1 + t) % 1000 = s := ⟨_, rfl⟩
        obtain ⟨q, hq⟩ : ∃ q, (r + 1 + t) % 1000 = q := ⟨_, rfl⟩
        have hsi : ((p : Int) + 1 + (t : Int)) % 1000 = (s : Int) := by omega
        have hqi : ((r : Int) + 1 + (t : Int)) % 1000 = (q : Int) := by omega
        have hs9 : s ≤ 999 ∧ s ≠ p := by omega
        have hq9 : q ≤ 999 ∧ q ≠ r := by omega
        have hne1 : (sealB (s : Int) (r : Int) != v) = true := by
          rw [bne_iff_ne, ← Hv.out, sealB_yes ⟨by omega, by omega⟩ ⟨by omega, by omega⟩, sealB_yes ⟨by omega, by omega⟩ ⟨by omega, by omega⟩]
          exact seal_seed ⟨by omega, by omega⟩ ⟨by omega, by omega⟩ (by omega)
        have hne2 : (sealB (p : Int) (q : Int) != v) = true := by
          rw [bne_iff_ne, ← Hv.out, sealB_yes ⟨by omega, by omega⟩ ⟨by omega, by omega⟩, sealB_yes ⟨by omega, by omega⟩ ⟨by omega, by omega⟩]
          exact seal_secret ⟨by omega, by omega⟩ ⟨by omega, by omega⟩ (by omega)
        obtain ⟨v1, hv1⟩ : ∃ v1, sealB (s : Int) (r : Int) = v1 := ⟨_, rfl⟩
        obtain ⟨v2, hv2⟩ : ∃ v2, sealB (p : Int) (q : Int) = v2 := ⟨_, rfl⟩
        rw [hv1] at hne1
        rw [hv2] at hne2
        have Hv1 := Lib.hid hv1
        have Hv2 := Lib.hid hv2
        clear hv1 hv2 ht hs hq
        go_wp2_with fail
        refine (implSeal_any _ _ _).mono ?_
        rintro e w' ⟨he, rfl⟩
        rw [Hv1.out] at he
        subst he
        go_wp2_with fail
        refine (implSeal_any _ _ _).mono ?_
        rintro e w' ⟨he, rfl⟩
        rw [Hv2.out] at he
        subst he
        go_wp2
        go_ret
        exact ⟨rfl, B1.out⟩
    · have hl2 : (1048576 : Int) < (len1 : Int) := by omega
      have hl3 : (len0 : Int) ≤ 1048576 := by omega
      clear w0 w1
      go_enter Try.func8, Try.ntmps8
      go_wp2
      go_ret
      exact ⟨rfl, Below.refl _ _⟩
  · have hl2 : (1048576 : Int) < (len0 : Int) := by omega
    clear w0 w1
    go_enter Try.func8, Try.ntmps8
    go_wp2
    go_ret
    exact ⟨rfl, Below.refl _ _⟩

end Go.Proofs.Ytapmmbngfklahaa.fnLotsSeal
