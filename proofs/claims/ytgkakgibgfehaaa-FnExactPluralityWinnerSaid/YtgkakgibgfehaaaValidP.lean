/-
  Valid ballots, as lists. Of no memory.
-/
import Derived.Test.YtgkakgibgfehaaaSh3
namespace Go.Proofs.Ytgkakgibgfehaaa
open Go.RowKit

theorem goodTo_prefix {pre zs : List Int} (h : pre <+: zs) (m : Int) {k : Nat} (hk : k ≤ pre.length) : goodTo zs m k = goodTo pre m k := by
  obtain ⟨t, rfl⟩ := h
  unfold goodTo
  rw [Bool.eq_iff_iff]
  simp only [List.all_eq_true, List.mem_range]
  have e : ∀ i, i < k → (pre ++ t)[i]?.getD 0 = pre[i]?.getD 0 ∧ (pre ++ t).take i = pre.take i := fun i hi => by
    refine ⟨by rw [List.getElem?_append_left (by omega)], by rw [List.take_append_of_le_length (by omega)]⟩
  exact ⟨fun h i hi => by have := h i hi; rwa [(e i hi).1, (e i hi).2] at this, fun h i hi => by rw [(e i hi).1, (e i hi).2]; exact h i hi⟩

/-- All numbers of a list are from 0 to m, and none of them comes twice. -/
def goodL (zs : List Int) (m : Int) : Bool := goodTo zs m zs.length
theorem goodL_snoc (pre : List Int) (x m : Int) : goodL (pre ++ [x]) m = (goodL pre m && (inB x 0 m && !hasB pre x)) := by
  unfold goodL
  rw [List.length_append, List.length_singleton, goodTo_succ, goodTo_prefix (List.prefix_append pre [x]) m (Nat.le_refl _)]
  simp
theorem goodL_prefix {pre zs : List Int} (h : pre <+: zs) (m : Int) (hn : goodL pre m = false) : goodL zs m = false := by
  have hl := h.length_le
  unfold goodL at hn ⊢
  rw [← goodTo_prefix h m (Nat.le_refl _)] at hn
  simp only [goodTo, List.all_eq_false, List.mem_range] at hn ⊢
  obtain ⟨i, h1, h2⟩ := hn
  exact ⟨i, by omega, h2⟩
theorem hasB_app (pre : List Int) (x c : Int) : hasB (pre ++ [x]) c = (hasB pre c || (x == c)) := by
  unfold hasB
  rw [Bool.eq_iff_iff]
  simp only [List.contains_iff_mem, List.mem_append, List.mem_singleton, Bool.or_eq_true, beq_iff_eq]
  exact ⟨fun h => h.imp id Eq.symm, fun h => h.imp id Eq.symm⟩
theorem validB_in {zs : List Int} {n : Int} (h1 : 1 ≤ n) (h2 : n ≤ 5) : validB zs n = goodL zs (n - 1) := by
  have e : wrap64 (n - 1) = n - 1 := IntWalk.wrap64_in _ ⟨by omega, by omega⟩
  simp [validB, goodL, e, inB, h1, h2]
theorem validB_out {zs : List Int} {n : Int} (h : n < 1 ∨ 5 < n) : validB zs n = false := by
  have e : inB n 1 5 = false := by simp [inB]; omega
  simp [validB, e]

theorem goodTo_mem {zs : List Int} {m : Int} (h : goodTo zs m zs.length = true) : ∀ z ∈ zs, 0 ≤ z ∧ z ≤ m := by
  intro z hz
  obtain ⟨i, hi, rfl⟩ := List.getElem_of_mem hz
  simp only [goodTo, List.all_eq_true, List.mem_range] at h
  have := h i hi
  simp [inB, hi] at this
  exact this.1
theorem validB_mem {zs : List Int} {n : Int} (h : validB zs n = true) : 1 ≤ n ∧ n ≤ 5 ∧ ∀ z ∈ zs, 0 ≤ z ∧ z < n := by
  by_cases h1 : 1 ≤ n
  · by_cases h5 : n ≤ 5
    · rw [validB_in h1 h5] at h
      exact ⟨h1, h5, fun z hz => by have := goodTo_mem h z hz; omega⟩
    · rw [validB_out (.inr (by omega))] at h; cases h
  · rw [validB_out (.inl (by omega))] at h; cases h

end Go.Proofs.Ytgkakgibgfehaaa
