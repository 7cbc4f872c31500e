/-
  markIntS writes into the one block of its slice.
-/
import Derived.Test.YtpgnneaaemfkoaaDoorMark
import Derived.Test.YtpgnneaaemfkoaaDoorDrawO
namespace Go.Proofs.YtpgnneaaemfkoaaDoor
open Go.RowKit

theorem Step.of_setCell {w w' : World} {R j : Nat} {v : Value} (h : Step R w w') : Step R w (w'.setCell ⟨R, j, none⟩ v) :=
  ⟨h.os, h.tape, h.output, by have := h.size; simpa [World.setCell] using this, fun k hk hne => (Below.heap_setCell _ _ _ _ (fun e => hne (by rw [e]))).trans (h.block k hk hne)⟩

set_option maxHeartbeats 1000000 in
/-- **markIntS**, at a block of the caller's own: that block alone is written. -/
theorem markInt_step (base g len cap : Nat) (xs : List Value) (k : Int) (w : World) (h : w.ownsRow base 3 1 (.slice (some ⟨g, 0, none⟩) len cap) len xs) (hl : len ≤ 1048600) (hk0 : 0 ≤ k) (hk : k ≤ 4000000000000000000) :
    Calls Tryd.prog 19 #[.slice (some ⟨g, 0, none⟩) len cap, .int .i64 k] w fun e w' => e = .returned (.int .i64 (k + (len : Int))) ∧ w'.ownsRow base 3 1 (.slice (some ⟨g, 0, none⟩) len cap) len ((marks k len).map (Value.int .i64)) ∧ Step g w w' := by
  have hxl : xs.length = len := by have := h.1; omega
  have HX := Lib.hid hxl; clear hxl
  have HO : Hid (w.ownsRow base 3 1 (.slice (some ⟨g, 0, none⟩) len cap) len (markTo xs k 0)) := by unfold Hid; simpa [markTo, marks] using h
  clear h
  go_enter Tryd.func19, Tryd.ntmps19
  go_wp2
  go_loopw [1, 5] (fun q i wr => ∃ j : Nat, j ≤ len ∧ i = .int .i64 j ∧ q = .int .i64 (k + (j : Int)) ∧ Hid (wr.ownsRow base 3 1 (.slice (some ⟨g, 0, none⟩) len cap) len (markTo xs k j)) ∧ Step g w wr) (fun _ i _ => len - (intOf i).toNat)
  case atStart => exact ⟨0, Nat.zero_le _, rfl, by simp, HO, Step.refl _ _⟩
  case round =>
    obtain ⟨j, hj, rfl, rfl, ho, hB⟩ := hrel
    by_cases hlt : j < len
    · have hfz := ho.out.frozenAt j
      have hcg := ho.out.cellAt j (by omega)
      have hlen : j < (markTo xs k j).length := by simp [markTo, marks, HX.out]; omega
      rw [List.getElem?_eq_getElem hlen] at hcg
      obtain ⟨v0, hv0⟩ : ∃ v0, (markTo xs k j)[j] = v0 := ⟨_, rfl⟩
      rw [hv0] at hcg
      clear hv0 hlen
      have HS := Lib.hid (ho.out.stored j (.int .i64 (k + (j : Int))))
      go_wp2
      go_roundw
      case rel => exact ⟨j + 1, by omega, by go_num, by push_cast; rw [Int.add_assoc], by unfold Hid; rw [← markTo_step xs k j (by rw [HX.out]; exact hlt)]; exact HS.out.1, hB.of_setCell⟩
      case measure => simp [intOf]; omega
    · obtain rfl : j = len := by omega
      go_wp2
      go_ret
      refine ⟨rfl, ?_, hB⟩
      have := ho.out
      rwa [markTo, List.drop_of_length_le (by rw [HX.out]; omega), List.append_nil] at this

end Go.Proofs.YtpgnneaaemfkoaaDoor
