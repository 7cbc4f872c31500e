/-
  The statements' own most: at lists of ints.
-/
import Derived.Test.YtbcemgmfkddafaaGrp8
namespace Go.Proofs.Ytbcemgmfkddafaa
open Go.RowKit

attribute [local go_sem] Oper.semAt_some

theorem mstI_take {zs : List Int} {k : Nat} (h : k < zs.length) : mstI (zs.take (k + 1)) = max (mstI (zs.take k)) (zs[k]?.getD 0) := by
  rw [take_next h, mstI_snoc]
set_option maxHeartbeats 2000000 in
/-- **most**. -/
theorem lawMost_as (a : Option Addr) (len cap : Nat) (zs : List Int) (m : Int) (w : World) (h : IsInts w a len cap zs) (hm : mstI zs = m) :
    Calls Try.prog 31 #[.slice a len cap] w fun e w' => e = .returned (.int .i64 m) ∧ w = w' := by
  obtain ⟨h1, h2, h3, h4⟩ := h
  have H1 := Lib.hid h1
  have H4 := Lib.hid h4
  have HM := Lib.hid hm
  clear h1 h4 hm
  go_enter Try.func31, Try.ntmps31
  go_wp2
  go_loop [3, 4] (fun nv iv => ∃ (i : Nat) (t : Int), i ≤ len ∧ iv = .int .i64 (i : Int) ∧ nv = .int .i64 t ∧ Hid (mstI (zs.take i) = t)) (fun _ iv => len - (intOf iv).toNat)
  case atStart => exact ⟨0, 0, Nat.zero_le _, rfl, rfl, by unfold Hid mstI; simp⟩
  case round =>
    obtain ⟨i, t, hil, rfl, rfl, hT⟩ := hrel
    by_cases hlt : i < len
    · obtain ⟨b, off, rfl, hb, hc⟩ := H4.out (by omega)
      have ci := hc i hlt
      obtain ⟨z, hz⟩ : ∃ z, zs[i]?.getD 0 = z := ⟨_, rfl⟩
      rw [hz] at ci
      have HT2 : Hid (mstI (zs.take (i + 1)) = max t z) := by rw [Hid, mstI_take (by rw [H1.out]; exact hlt), hz, hT.out]
      clear hc hz
      by_cases htz : t < z
      · have HT3 : Hid (mstI (zs.take (i + 1)) = z) := by rw [Hid, HT2.out]; omega
        go_wp2
        go_round
        case rel => exact ⟨i + 1, z, by omega, by go_num, by first | rfl | (congr 1; omega), HT3⟩
        case measure => simp [intOf]; omega
      · have HT3 : Hid (mstI (zs.take (i + 1)) = t) := by rw [Hid, HT2.out]; omega
        go_wp2
        go_round
        case rel => exact ⟨i + 1, t, by omega, by go_num, by first | rfl | (congr 1; omega), HT3⟩
        case measure => simp [intOf]; omega
    · obtain rfl : i = len := by omega
      have HE : Hid (t = m) := by rw [Hid, ← HM.out, ← hT.out, List.take_of_length_le (by rw [H1.out]; exact Nat.le_refl _)]
      go_wp2
      go_ret
      exact ⟨ret_int HE.out, rfl⟩

end Go.Proofs.Ytbcemgmfkddafaa
