/-
  markIntS and heldIntS: the first writes ascending numbers into a slice of the caller's own, the second finds them again.
  markIntS writes into the one block of its slice.
-/
import Derived.Test.YtbcemgmfkddafaaGrp12
import Derived.Test.YtbcemgmfkddafaaGrp6
namespace Go.Proofs.Ytbcemgmfkddafaa
open Go.RowKit

/-- Ascending numbers from k on. -/
def marks (k : Int) (n : Nat) : List Int := (List.range n).map fun (j : Nat) => k + (j : Int)
theorem marks_length (k : Int) (n : Nat) : (marks k n).length = n := by simp [marks]
theorem marks_succ (k : Int) (n : Nat) : marks k (n + 1) = marks k n ++ [k + (n : Int)] := by simp [marks, List.range_succ]
theorem marks_at (k : Int) (n j : Nat) (h : j < n) : (marks k n)[j]?.getD 0 = k + (j : Int) := by simp [marks, h]

/-- The first j are marked. -/
def markTo (xs : List Value) (k : Int) (j : Nat) : List Value := (marks k j).map (Value.int .i64) ++ xs.drop j
theorem markTo_step (xs : List Value) (k : Int) (j : Nat) (h : j < xs.length) : (markTo xs k j).set j (.int .i64 (k + (j : Int))) = markTo xs k (j + 1) := by
  have hl : ((marks k j).map (Value.int .i64)).length = j := by simp [marks]
  unfold markTo
  rw [marks_succ, List.map_append, List.append_assoc, List.set_append_right _ _ (by omega), hl, Nat.sub_self, List.drop_eq_getElem_cons h, List.set_cons_zero]
  rfl

set_option maxHeartbeats 1000000 in
/-- **markIntS**. -/
theorem markInt_any (base : Nat) (a : Option Addr) (len cap : Nat) (xs : List Value) (k : Int) (w : World) (h : w.ownsRow base 3 1 (.slice a len cap) len xs) (hl : len ≤ 1048600) (hk0 : 0 ≤ k) (hk : k ≤ 1000000000000) :
    Calls Try.prog 34 #[.slice a len cap, .int .i64 k] w fun e w' => e = .returned (.int .i64 (k + (len : Int))) ∧ w'.ownsRow base 3 1 (.slice a len cap) len ((marks k len).map (Value.int .i64)) ∧ Below base w w' := by
  have hxl : xs.length = len := by have := h.1; omega
  have HX := Lib.hid hxl; clear hxl
  have HO : Hid (w.ownsRow base 3 1 (.slice a len cap) len (markTo xs k 0)) := by unfold Hid; simpa [markTo, marks] using h
  clear h
  go_enter Try.func34, Try.ntmps34
  go_wp2
  go_loopw [1, 5] (fun q i wr => ∃ j : Nat, j ≤ len ∧ i = .int .i64 j ∧ q = .int .i64 (k + (j : Int)) ∧ Hid (wr.ownsRow base 3 1 (.slice a len cap) len (markTo xs k j)) ∧ Below base w wr) (fun _ i _ => len - (intOf i).toNat)
  case atStart => exact ⟨0, Nat.zero_le _, rfl, by simp, HO, Below.refl _ _⟩
  case round =>
    obtain ⟨j, hj, rfl, rfl, ho, hB⟩ := hrel
    by_cases hlt : j < len
    · obtain ⟨g, hg, hgb⟩ : ∃ g, a = some ⟨g, 0, none⟩ ∧ base ≤ g := by
        rcases ho.out.2 with ⟨_, e0⟩ | ⟨g, c, _, e, hb, _⟩
        · omega
        · injection e with e1 _ _; exact ⟨g, e1, hb⟩
      subst hg
      have hfz := ho.out.frozenAt j
      have hcg := ho.out.cellAt j (by omega)
      have hlen : j < (markTo xs k j).length := by simp [markTo, marks, HX.out]; omega
      rw [List.getElem?_eq_getElem hlen] at hcg
      obtain ⟨v0, hv0⟩ : ∃ v0, (markTo xs k j)[j] = v0 := ⟨_, rfl⟩
      rw [hv0] at hcg
      clear hv0 hlen
      have HS := Lib.hid (ho.out.stored j (.int .i64 (k + (j : Int))))
      go_wp2
      go_roundw
      case rel => exact ⟨j + 1, by omega, by go_num, by push_cast; rw [Int.add_assoc], by unfold Hid; rw [← markTo_step xs k j (by rw [HX.out]; exact hlt)]; exact HS.out.1, hB.setCell (p := ⟨g, j, none⟩) hgb _⟩
      case measure => simp [intOf]; omega
    · obtain rfl : j = len := by omega
      go_wp2
      go_ret
      refine ⟨rfl, ?_, hB⟩
      have := ho.out
      rwa [markTo, List.drop_of_length_le (by rw [HX.out]; omega), List.append_nil] at this

set_option maxHeartbeats 1000000 in
/-- **heldIntS**. -/
theorem heldInt_any (a : Option Addr) (len cap : Nat) (k : Int) (w : World) (h : IsInts w a len cap (marks k len)) (hk0 : 0 ≤ k) (hk : k ≤ 1000000000000) :
    Calls Try.prog 35 #[.slice a len cap, .int .i64 k] w fun e w' => e = .returned (.int .i64 (k + (len : Int))) ∧ w = w' := by
  have hm := h.2.2.1
  have H4 := Lib.hid h.2.2.2; clear h
  go_enter Try.func35, Try.ntmps35
  go_wp2
  go_loop [1, 5] (fun q i => ∃ j : Nat, j ≤ len ∧ i = .int .i64 j ∧ q = .int .i64 (k + (j : Int))) (fun _ i => len - (intOf i).toNat)
  case atStart => exact ⟨0, Nat.zero_le _, rfl, by simp⟩
  case round =>
    obtain ⟨j, hj, rfl, rfl⟩ := hrel
    by_cases hlt : j < len
    · obtain ⟨b, o, rfl, hb, hc⟩ := H4.out (by omega)
      have hz := hc j hlt
      rw [marks_at k len j hlt] at hz
      clear hc
      have hne : (k + (j : Int) != k + (j : Int)) = false := by simp
      go_wp2
      go_round
      case rel => exact ⟨j + 1, by omega, by go_num, by push_cast; rw [Int.add_assoc]⟩
      case measure => simp [intOf]; omega
    · obtain rfl : j = len := by omega
      go_wp2
      go_ret
      exact ⟨rfl, rfl⟩

end Go.Proofs.Ytbcemgmfkddafaa

namespace Go.Proofs.Ytbcemgmfkddafaa
open Go.RowKit

theorem Step.of_setCell {w w' : World} {R j : Nat} {v : Value} (h : Step R w w') : Step R w (w'.setCell ⟨R, j, none⟩ v) :=
  ⟨h.os, h.tape, h.output, by have := h.size; simpa [World.setCell] using this, fun k hk hne => (Below.heap_setCell _ _ _ _ (fun e => hne (by rw [e]))).trans (h.block k hk hne)⟩

set_option maxHeartbeats 1000000 in
/-- **markIntS**, at a block of the caller's own: that block alone is written. -/
theorem markInt_step (base g len cap : Nat) (xs : List Value) (k : Int) (w : World) (h : w.ownsRow base 3 1 (.slice (some ⟨g, 0, none⟩) len cap) len xs) (hl : len ≤ 1048600) (hk0 : 0 ≤ k) (hk : k ≤ 4000000000000000000) :
    Calls Try.prog 34 #[.slice (some ⟨g, 0, none⟩) len cap, .int .i64 k] w fun e w' => e = .returned (.int .i64 (k + (len : Int))) ∧ w'.ownsRow base 3 1 (.slice (some ⟨g, 0, none⟩) len cap) len ((marks k len).map (Value.int .i64)) ∧ Step g w w' := by
  have hxl : xs.length = len := by have := h.1; omega
  have HX := Lib.hid hxl; clear hxl
  have HO : Hid (w.ownsRow base 3 1 (.slice (some ⟨g, 0, none⟩) len cap) len (markTo xs k 0)) := by unfold Hid; simpa [markTo, marks] using h
  clear h
  go_enter Try.func34, Try.ntmps34
  go_wp2
  go_loopw [1, 5] (fun q i wr => ∃ j : Nat, j ≤ len ∧ i = .int .i64 j ∧ q = .int .i64 (k + (j : Int)) ∧ Hid (wr.ownsRow base 3 1 (.slice (some ⟨g, 0, none⟩) len cap) len (markTo xs k j)) ∧ Step g w wr) (fun _ i _ => len - (intOf i).toNat)
  case atStart => exact ⟨0, Nat.zero_le _, rfl, by simp, HO, Step.refl _ _⟩
  case round =>
    obtain ⟨j, hj, rfl, rfl, ho, hB⟩ := hrel
    by_cases hlt : j < len
    · have hfz := ho.out.frozenAt j
      have hcg := ho.out.cellAt j (by omega)
      have hlen : j < (markTo xs k j).length := by simp [markTo, marks, HX.out]; omega
      rw [List.getElem?_eq_getElem hlen] at hcg
      obtain ⟨v0, hv0⟩ : ∃ v0, (markTo xs k j)[j] = v0 := ⟨_, rfl⟩
      rw [hv0] at hcg
      clear hv0 hlen
      have HS := Lib.hid (ho.out.stored j (.int .i64 (k + (j : Int))))
      go_wp2
      go_roundw
      case rel => exact ⟨j + 1, by omega, by go_num, by push_cast; rw [Int.add_assoc], by unfold Hid; rw [← markTo_step xs k j (by rw [HX.out]; exact hlt)]; exact HS.out.1, hB.of_setCell⟩
      case measure => simp [intOf]; omega
    · obtain rfl : j = len := by omega
      go_wp2
      go_ret
      refine ⟨rfl, ?_, hB⟩
      have := ho.out
      rwa [markTo, List.drop_of_length_le (by rw [HX.out]; omega), List.append_nil] at this

end Go.Proofs.Ytbcemgmfkddafaa
