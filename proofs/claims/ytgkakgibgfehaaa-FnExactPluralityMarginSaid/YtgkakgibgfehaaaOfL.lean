/-
  The marks 1, 2 and so on of a ballot, as a list; what a valid ballot's numbers are. Of no memory.
-/
import Derived.Test.YtgkakgibgfehaaaValidP
namespace Go.Proofs.Ytgkakgibgfehaaa

theorem gB_mem {zs : List Int} {m : Int} (h : goodTo zs m zs.length = true) : ∀ z ∈ zs, 0 ≤ z ∧ z ≤ m := by
  intro z hz
  obtain ⟨i, hi, rfl⟩ := List.mem_iff_getElem.1 hz
  simp only [goodTo, List.all_eq_true, List.mem_range] at h
  have := h i hi
  simp only [inB, Bool.and_eq_true, decide_eq_true_eq, hi, List.getElem?_eq_getElem, Option.getD_some] at this
  exact this.1
theorem vB_mem {zs : List Int} {n : Int} (h : validB zs n = true) : 1 ≤ n ∧ n ≤ 5 ∧ ∀ z ∈ zs, 0 ≤ z ∧ z < n := by
  by_cases h1 : 1 ≤ n
  · by_cases h5 : n ≤ 5
    · rw [validB_in h1 h5] at h
      exact ⟨h1, h5, fun z hz => by have := gB_mem h z hz; omega⟩
    · rw [validB_out (.inr (by omega))] at h; cases h
  · rw [validB_out (.inl (by omega))] at h; cases h
theorem gB_nodup {zs : List Int} {m : Int} (h : goodTo zs m zs.length = true) : zs.Nodup := by
  rw [List.Nodup, List.pairwise_iff_getElem]
  intro i j hi hj hij e
  simp only [goodTo, List.all_eq_true, List.mem_range] at h
  have := h j hj
  simp only [Bool.and_eq_true, Bool.not_eq_true', hasB] at this
  have h2 := this.2
  simp only [hj, List.getElem?_eq_getElem, Option.getD_some, List.contains_eq_mem, decide_eq_false_iff_not] at h2
  exact h2 (by rw [← e]; exact List.mem_take_iff_getElem.2 ⟨i, by omega, rfl⟩)
theorem vB_nodup {zs : List Int} {n : Int} (h : validB zs n = true) : zs.Nodup := by
  have hm := vB_mem h
  rw [validB_in hm.1 hm.2.1] at h
  exact gB_nodup h
/-- Different numbers from 0 to n-1 are at most n. -/
theorem few_of : ∀ (n : Nat) (l : List Int), l.Nodup → (∀ z ∈ l, 0 ≤ z ∧ z < (n : Int)) → l.length ≤ n
  | 0, l, _, h => by
    cases l with
    | nil => exact Nat.le_refl 0
    | cons z t => have := h z (by simp); omega
  | n + 1, l, hd, h => by
    by_cases hm : (n : Int) ∈ l
    · have h1 := few_of n (l.erase (n : Int)) (hd.erase _) (fun z hz => by
        have hz' := (hd.mem_erase_iff).1 hz
        have := h z hz'.2
        have hne := hz'.1
        omega)
      rw [List.length_erase_of_mem hm] at h1
      omega
    · have h1 := few_of n l hd (fun z hz => by
        have := h z hz
        have hne : z ≠ (n : Int) := fun e => hm (e ▸ hz)
        omega)
      omega
theorem vB_short {zs : List Int} {n : Int} (h : validB zs n = true) : (zs.length : Int) ≤ n := by
  have hm := vB_mem h
  obtain ⟨k, rfl⟩ := Int.eq_ofNat_of_zero_le (by omega : 0 ≤ n)
  have := few_of k zs (vB_nodup h) hm.2.2
  omega
end Go.Proofs.Ytgkakgibgfehaaa
