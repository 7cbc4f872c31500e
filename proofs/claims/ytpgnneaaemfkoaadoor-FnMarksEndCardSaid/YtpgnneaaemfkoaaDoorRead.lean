/-
  math/bits.TrailingZeros, slices.Index and impl.markBits: what each returns; they write nothing. No condition but what each theorem says.
-/
import Derived.Test.YtpgnneaaemfkoaaDoorReadP
import Derived.Laws.Bits64b
namespace Go.Proofs.YtpgnneaaemfkoaaDoor
open Go.RowKit

/-- math/bits' table lies in its variable. -/
def Tab (w : World) : Prop := ∀ j, j < 64 → w.cell? ⟨1, j, none⟩ = some (.int .u8 ((Lib.deBruijn64tab.getD j 0 : Nat) : Int))
theorem Tab.below {w w' : World} (h : Tab w) (hb : Below w.heap.size w w') : Tab w' := fun j hj =>
  (hb.cell (p := ⟨1, j, none⟩) (World.block_lt_of_cell? w _ (h j hj))).trans (h j hj)

theorem tz_key (x a : Nat) (hx : x < 18446744073709551616) (hx0 : x ≠ 0) (hlow : x &&& (18446744073709551616 - x) = a) :
    IntKind.u64.wrap (bits BinOp.and IntKind.u64 (x : Int) (IntKind.u64.wrap (-(x : Int))) * 285870213051353865) / 288230376151711744 = ((a * 285870213051353865 % 18446744073709551616 / 288230376151711744 : Nat) : Int) := by
  have e1 : IntKind.u64.wrap (-(x : Int)) = ((18446744073709551616 - x : Nat) : Int) := by rw [IntKind.wrap_u64]; omega
  rw [e1, bits_and_u64_nat x _ hx (by omega), hlow, IntKind.wrap_u64]
  omega

set_option maxHeartbeats 1000000 in
theorem tz64_any (x : Nat) (hx : x < 1024) (hx0 : x ≠ 0) (w : World) (hT : Tab w) :
    Calls Tryd.prog 39 #[.int .u64 (x : Int)] w fun e w' => e = .returned (.int .i64 ((Lib.ctz 64 x : Nat) : Int)) ∧ w = w' := by
  obtain ⟨hlow, hk⟩ := Lib.lowest_bit 64 x hx0 (by omega)
  obtain ⟨hi, htab⟩ := Lib.deBruijn64_at _ hk
  have hcell := hT _ hi
  rw [htab] at hcell
  have key := tz_key x _ (by omega) hx0 hlow
  obtain ⟨k, hkk⟩ : ∃ k, Lib.ctz 64 x = k := ⟨_, rfl⟩
  rw [hkk] at hcell key hi hk ⊢
  obtain ⟨idx, hidx⟩ : ∃ idx, 2 ^ k * 285870213051353865 % 18446744073709551616 / 288230376151711744 = idx := ⟨_, rfl⟩
  rw [hidx] at hcell key hi
  have hne : ((x : Int) == 0) = false := by simp; omega
  clear htab hlow hkk hidx hT
  go_enter Tryd.func39, Tryd.ntmps39
  go_wp2
  go_ret
  exact ⟨rfl, rfl⟩

set_option maxHeartbeats 1000000 in
/-- **bits.TrailingZeros**. -/
theorem tz_any (x : Nat) (hx : x < 1024) (hx0 : x ≠ 0) (w : World) (hT : Tab w) :
    Calls Tryd.prog 27 #[.int .u64 (x : Int)] w fun e w' => e = .returned (.int .i64 ((Lib.ctz 64 x : Nat) : Int)) ∧ w = w' := by
  have HT := Lib.hid hT; clear hT
  go_enter Tryd.func27, Tryd.ntmps27
  go_wp2_with fail
  refine (tz64_any x hx hx0 _ HT.out).mono ?_
  rintro e w1 ⟨rfl, rfl⟩
  go_wp2
  go_ret
  exact ⟨rfl, rfl⟩

set_option maxHeartbeats 1000000 in
/-- **slices.Index**, at a list that has the number: the first place. -/
theorem index_any (a : Option Addr) (len cap : Nat) (zs : List Int) (v : Int) (i : Nat) (w : World) (h : IsInts w a len cap zs) (hi : i < len) (hz : zs[i]?.getD 0 = v) (hb : ∀ j, j < i → zs[j]?.getD 0 ≠ v) :
    Calls Tryd.prog 26 #[.slice a len cap, .int .i64 v] w fun e w' => e = .returned (.int .i64 (i : Int)) ∧ w = w' := by
  obtain ⟨-, h2, h3, h4⟩ := h
  obtain ⟨b, off, rfl, hb2, hcell⟩ := h4 (by omega)
  have HC := Lib.hid hcell; clear hcell h4
  have HZ := Lib.hid hz; clear hz
  have HB := Lib.hid hb; clear hb
  go_enter Tryd.func26, Tryd.ntmps26
  go_wp2
  go_loop [8] (fun q => ∃ k : Nat, k ≤ i ∧ q = .int .i64 k) (fun q => len - (intOf q).toNat)
  case atStart => exact ⟨0, Nat.zero_le _, rfl⟩
  case round =>
    obtain ⟨k, hk, rfl⟩ := hrel
    have hck := HC.out k (by omega)
    have hkl : k < len := by omega
    by_cases hki : k = i
    · subst hki
      rw [HZ.out] at hck
      have hbe : (v == v) = true := by simp
      go_wp2
      go_ret
      exact ⟨rfl, rfl⟩
    · have hne := HB.out k (by omega)
      obtain ⟨z, hzz⟩ : ∃ z, zs[k]?.getD 0 = z := ⟨_, rfl⟩
      rw [hzz] at hck hne
      have hbe : (v == z) = false := by simp; exact fun e => hne e.symm
      clear hne hzz
      go_wp2
      go_round
      case rel => exact ⟨k + 1, by omega, by go_num⟩
      case measure => simp [intOf]; omega

theorem bit_small (m : Nat) (h : m ≤ 9) : 2 ^ m < 18446744073709551616 := Nat.lt_of_le_of_lt (Nat.pow_le_pow_right (by omega) h) (by decide)
theorem bit_wrap (m : Nat) (h : m ≤ 9) : IntKind.u64.wrap ((2 : Int) ^ m) = ((2 ^ m : Nat) : Int) := by
  have e : m = 0 ∨ m = 1 ∨ m = 2 ∨ m = 3 ∨ m = 4 ∨ m = 5 ∨ m = 6 ∨ m = 7 ∨ m = 8 ∨ m = 9 := by omega
  rcases e with rfl | rfl | rfl | rfl | rfl | rfl | rfl | rfl | rfl | rfl <;> rfl

set_option maxHeartbeats 2000000 in
/-- **impl.markBits**. -/
theorem markBits_any (a : Option Addr) (len cap : Nat) (zs : List Int) (w : World) (h : IsInts w a len cap zs) (hr : rankB zs = true) :
    Calls Tryd.prog 25 #[.slice a len cap] w fun e w' => e = .returned (.tuple #[.int .u64 ((bitsTo zs zs.length).1 : Nat), .int .u64 ((bitsTo zs zs.length).2 : Nat)]) ∧ w = w' := by
  have hl := rankB_len hr
  have h9 := Lib.hid (fun i hi => rankB_at hr i hi)
  obtain ⟨h1, h2, h3, h4⟩ := h
  rw [h1] at hl
  have H1 := Lib.hid h1; clear h1
  obtain ⟨b, off, rfl, hb2, hcell⟩ := h4 (by omega)
  have HC := Lib.hid hcell; clear hcell h4 hr
  go_enter Tryd.func25, Tryd.ntmps25
  go_wp2
  go_loop [2, 3, 9] (fun p q i => ∃ k had shared : Nat, k ≤ len ∧ i = .int .i64 k ∧ p = .int .u64 (had : Int) ∧ q = .int .u64 (shared : Int) ∧ had < 1024 ∧ shared < 1024 ∧ Hid (bitsTo zs k = (had, shared))) (fun _ _ i => len - (intOf i).toNat)
  case atStart => exact ⟨0, 0, 0, Nat.zero_le _, rfl, rfl, rfl, by omega, by omega, rfl⟩
  case round =>
    obtain ⟨k, had, shared, hk, rfl, rfl, rfl, hh, hs, hbt⟩ := hrel
    by_cases hlt : k < len
    · have hck := HC.out k hlt
      obtain ⟨z0, z9⟩ := h9.out k (by rw [H1.out]; exact hlt)
      obtain ⟨m, hm⟩ := Int.eq_ofNat_of_zero_le z0
      rw [hm] at hck z9
      have HM := Lib.hid hm
      clear z0 hm
      by_cases hm0 : m = 0
      · subst hm0
        have HB := Lib.hid (bitsTo_zero HM.out)
        go_wp2
        go_round
        case rel => exact ⟨k + 1, had, shared, by omega, by go_num, rfl, rfl, hh, hs, by unfold Hid; rw [HB.out, hbt.out]⟩
        case measure => simp [intOf]; omega
      · have hne : ((m : Int) == 0) = false := by simp; omega
        have HB := bitsTo_mark HM.out hm0
        rw [hbt.out] at HB
        obtain ⟨b1, b2⟩ := bits_small h9.out (k + 1) (by rw [H1.out]; omega)
        rw [HB] at b1 b2
        have HB := Lib.hid HB
        go_wp2
        go_round
        case rel =>
          have hor : bits BinOp.or IntKind.u64 (had : Int) (IntKind.u64.wrap (2 ^ m)) = ((had ||| 2 ^ m : Nat) : Int) := by
            rw [bit_wrap m (by omega), bits_or_u64_nat _ _ (by omega) (bit_small m (by omega))]
          have han : bits BinOp.or IntKind.u64 (shared : Int) (bits BinOp.and IntKind.u64 (had : Int) (IntKind.u64.wrap (2 ^ m))) = ((shared ||| (had &&& 2 ^ m) : Nat) : Int) := by
            rw [bit_wrap m (by omega), bits_and_u64_nat _ _ (by omega) (bit_small m (by omega)), bits_or_u64_nat _ _ (by omega) (Nat.lt_of_le_of_lt Nat.and_le_left (by omega))]
          exact ⟨k + 1, had ||| 2 ^ m, shared ||| (had &&& 2 ^ m), by omega, by go_num, by rw [hor], by rw [han], b1, b2, HB⟩
        case measure => simp [intOf]; omega
    · obtain rfl : k = len := by omega
      go_wp2
      go_ret2
      rw [H1.out, hbt.out]
      exact ⟨rfl, rfl⟩

end Go.Proofs.YtpgnneaaemfkoaaDoor
