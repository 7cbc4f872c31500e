/-
  spec.BallotText: the text of a ballot; it writes into no memory that was there. No condition but what each theorem says.
-/
import Derived.Test.YtdmjgicopnihgaaTxtP
import Derived.Laws.BytesArg
import Derived.Laws.Concat
import Derived.Maps.AppendAt
namespace Go.Proofs.Ytdmjgicopnihgaa
open Go.RowKit

theorem ret_str {a b : ByteArray} (h : a = b) : Ending.returned (.string a) = .returned (.string b) := by rw [h]

set_option maxHeartbeats 1000000 in
/-- **spec.BallotText**. -/
theorem specText_any (a : Option Addr) (len cap : Nat) (zs : List Int) (w : World) (h : IsInts w a len cap zs) :
    Calls Try.prog 39 #[.slice a len cap] w fun e w' => e = .returned (.string (txtB zs)) ∧ Dr w w' := by
  have hm := h.2.2.1
  have H := Lib.hid h; clear h
  cases hv : validB zs 5
  · have e : Hid (txtB zs = ByteArray.empty) := by simp [Hid, txtB, hv]
    go_enter Try.func39, Try.ntmps39
    go_wp2
    go_loopw [3, 4] (fun o i wr => o = .string ByteArray.empty ∧ i = .int .i64 0 ∧ wr = w) (fun _ _ _ => 0)
    case atStart => exact ⟨rfl, rfl, rfl⟩
    case round =>
      obtain ⟨rfl, rfl, rfl⟩ := hrel
      by_cases hl : 0 < len
      · go_wp2_with fail
        refine (specValid_any _ _ _ zs _ _ H.out).mono ?_
        rintro e1 w1 ⟨rfl, hd⟩
        go_wp2
        go_ret
        exact ⟨ret_str e.out.symm, hd⟩
      · go_wp2
        go_ret
        exact ⟨ret_str e.out.symm, Dr.refl _⟩
  · have e : Hid (txtB zs = txtOf zs) := by simp [Hid, txtB, hv]
    have HR := Lib.hid (vB_mem hv).2.2
    go_enter Try.func39, Try.ntmps39
    go_wp2
    go_loopw [3, 4] (fun o i wr => ∃ k : Nat, k ≤ len ∧ i = .int .i64 k ∧ (∃ s, o = .string s ∧ s.size ≤ k ∧ Hid (s = txtOf (zs.take k))) ∧ Dr w wr) (fun _ i _ => len - (intOf i).toNat)
    case atStart => exact ⟨0, Nat.zero_le _, rfl, ⟨_, rfl, Nat.le_refl 0, by unfold Hid; rfl⟩, Dr.refl _⟩
    case round =>
      obtain ⟨k, hk, rfl, ⟨s, rfl, hs, hst⟩, hd⟩ := hrel
      obtain ⟨h1, _, _, h4⟩ := H.out.dr hd
      have H1 := Lib.hid h1; clear h1
      by_cases hlt : k < len
      · have hkz : k < zs.length := by rw [H1.out]; exact hlt
        have hr := HR.out (zs[k]?.getD 0) (by simp [hkz])
        obtain ⟨c, hcz⟩ := Int.eq_ofNat_of_zero_le hr.1
        obtain ⟨b, o, rfl, hb, hcell⟩ := h4 (by omega)
        have hz := hcell k hlt
        rw [hcz] at hz
        have hc5 : c < 5 := by omega
        have HT := take_snoc zs k hkz
        rw [hcz] at HT
        have HT := Lib.hid HT
        clear hcell h4 hr hcz hkz
        go_wp2_with fail
        refine (specValid_any _ _ _ zs _ _ (H.out.dr hd)).mono ?_
        rintro e1 w1 ⟨rfl, hd1⟩
        have hz1 := (Below.cell (p := ⟨b, o + k, none⟩) (hd1.below wr.heap.size) hb).trans hz
        clear hz
        go_wp2
        go_quiet (fail)
        go_wp2
        go_roundw
        case rel =>
          refine ⟨k + 1, by omega, by go_num, ⟨_, rfl, ?_, ?_⟩, (hd.trans hd1).drewN _⟩
          · rw [letter_of c hc5, ByteArray.size_append, txtOf_size]; simp; omega
          · unfold Hid; rw [letter_of c hc5, HT.out, txtOf_snoc, hst.out]
        case measure => simp [intOf]; omega
      · obtain rfl : k = len := by omega
        clear h4
        go_wp2
        go_ret
        refine ⟨ret_str ?_, hd⟩
        rw [e.out, hst.out, List.take_of_length_le (by rw [H1.out]; omega)]

end Go.Proofs.Ytdmjgicopnihgaa
