/-
  l91Piles: the reader draws piles: some list of at most 13 piles, with texts of at most 1048600 bytes and numbers from 0 to 100, in memory of its own.
-/
import Derived.Test.YtaaamidkfhabnabAddS
import Derived.Test.YtaaamidkfhabnabDrawB
import Derived.Test.YtaaamidkfhabnabGrp5
namespace Go.Proofs.Ytaaamidkfhabnab
open Go.RowKit

theorem Step.behind {R : Nat} {w w' w2 : World} (h : Step R w w') (hb : Below w'.heap.size w' w2) : Step R w w2 :=
  h.grown (row := none) ⟨hb.os, hb.tape, hb.output, hb.size, fun k hk _ => hb.block k hk⟩ (fun k e => by cases e)
theorem small_valid {ps : List Pl} (h : pilesB ps = true) : Small ps := Small.of fun p hp => by
  have hv := (pilesB_pos h).2.2.2.1 p hp
  have := vB_short hv
  rw [nums_length] at this
  omega
theorem cellsP_setT : ∀ (ps : List Pl) (k : Nat) (s : ByteArray), k < ps.length → (cellsP ps).set (k * 2) (.string s) = cellsP (ps.set k (s, mAt ps k))
  | [], k, s, h => by simp at h
  | p :: ps, 0, s, _ => rfl
  | p :: ps, k + 1, s, h => by
    rw [mAt_cons, cellsP, show (k + 1) * 2 = k * 2 + 1 + 1 by omega, List.set_cons_succ, List.set_cons_succ, cellsP_setT ps k s (by simpa using h), List.set_cons_succ, cellsP]
/-- The numbers are from 0 to 100. -/
def Few (ps : List Pl) : Prop := ∀ i, 0 ≤ mAt ps i ∧ mAt ps i ≤ 100
theorem Few.of {ps : List Pl} (h : ∀ p ∈ ps, 0 ≤ p.2 ∧ p.2 ≤ 100) : Few ps := fun i => by
  unfold mAt
  cases e : ps[i]? with
  | none => simp
  | some p => exact h p (List.mem_of_getElem? e)
theorem Few.mem {ps : List Pl} (h : Few ps) : ∀ p ∈ ps, 0 ≤ p.2 ∧ p.2 ≤ 100 := fun p hp => by
  obtain ⟨i, hi, rfl⟩ := List.mem_iff_getElem.1 hp
  have := h i
  unfold mAt at this
  simpa [hi] using this
theorem Small.mem {ps : List Pl} (h : Small ps) : ∀ p ∈ ps, p.1.size ≤ 1048600 := fun p hp => by
  obtain ⟨i, hi, rfl⟩ := List.mem_iff_getElem.1 hp
  have := h i
  unfold tAt at this
  simpa [hi] using this
theorem few_valid {ps : List Pl} (h : pilesB ps = true) : Few ps := fun i => by have := mAt_valid h i; omega
theorem Few.set {ps : List Pl} (h : Few ps) (k : Nat) {t : ByteArray} {m : Int} (hm : 0 ≤ m ∧ m ≤ 100) : Few (ps.set k (t, m)) := Few.of fun p hp => by
  rcases List.mem_or_eq_of_mem_set hp with hp | rfl
  · exact h.mem p hp
  · exact hm
theorem Small.set {ps : List Pl} (h : Small ps) (k : Nat) {t : ByteArray} {m : Int} (ht : t.size ≤ 1048600) : Small (ps.set k (t, m)) := Small.of fun p hp => by
  rcases List.mem_or_eq_of_mem_set hp with hp | rfl
  · exact h.mem p hp
  · exact ht
theorem Few.snoc {ps : List Pl} (h : Few ps) {t : ByteArray} {m : Int} (hm : 0 ≤ m ∧ m ≤ 100) : Few (ps ++ [(t, m)]) := Few.of fun p hp => by
  rcases List.mem_append.1 hp with hp | hp
  · exact h.mem p hp
  · simp at hp; subst hp; exact hm
theorem Small.snoc {ps : List Pl} (h : Small ps) {t : ByteArray} {m : Int} (ht : t.size ≤ 1048600) : Small (ps ++ [(t, m)]) := Small.of fun p hp => by
  rcases List.mem_append.1 hp with hp | hp
  · exact h.mem p hp
  · simp at hp; subst hp; exact ht

theorem txtB_short' (zs : List Int) : (txtB zs).size ≤ zs.length := by
  unfold txtB
  split
  · rw [txtOf_size]; exact Nat.le_refl _
  · exact Nat.zero_le _
/-- Piles of the reader's. -/
def DrawnP (R p : Nat) (w : World) (e : Ending) (w' : World) : Prop := ∃ (ps : List Pl) (g cap p' : Nat), e = .returned (.slice (some ⟨g, 0, none⟩) ps.length cap) ∧
  w'.ownsRow w.heap.size 45 2 (.slice (some ⟨g, 0, none⟩) ps.length cap) ps.length (cellsP ps) ∧ Small ps ∧ Few ps ∧ ps.length ≤ 13 ∧ Rd w' R p' ∧ p' ≤ p + 3000 ∧ Step R w w'
theorem addL_valid {ps : List Pl} {t : ByteArray} {m : Int} (h : addB ps t m = true) : pilesB (addL ps t m) = true := by rw [addL, h]; exact ((addB_iff ps t m).1 h).2.2

end Go.Proofs.Ytaaamidkfhabnab
