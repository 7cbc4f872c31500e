/-
  The marks 1, 2 and so on of a ballot, as a list; what a valid ballot's numbers are. Of no memory.
-/
import Derived.Test.YtpgnneaaemfkoaaDoorValidP
namespace Go.Proofs.YtpgnneaaemfkoaaDoor

theorem gB_mem {zs : List Int} {m : Int} (h : goodTo zs m zs.length = true) : ∀ z ∈ zs, 0 ≤ z ∧ z ≤ m := by
  intro z hz
  obtain ⟨i, hi, rfl⟩ := List.mem_iff_getElem.1 hz
  simp only [goodTo, List.all_eq_true, List.mem_range] at h
  have := h i hi
  simp only [inB, Bool.and_eq_true, decide_eq_true_eq, hi, List.getElem?_eq_getElem, Option.getD_some] at this
  exact this.1
theorem vB_mem {zs : List Int} {n : Int} (h : validB zs n = true) : 1 ≤ n ∧ n ≤ 5 ∧ ∀ z ∈ zs, 0 ≤ z ∧ z < n := by
  by_cases h1 : 1 ≤ n
  · by_cases h5 : n ≤ 5
    · rw [validB_in h1 h5] at h
      exact ⟨h1, h5, fun z hz => by have := gB_mem h z hz; omega⟩
    · rw [validB_out (.inr (by omega))] at h; cases h
  · rw [validB_out (.inl (by omega))] at h; cases h
theorem vB_at {zs : List Int} {n : Int} (h : validB zs n = true) (i : Nat) (hi : i < zs.length) : 0 ≤ zs[i]?.getD 0 ∧ zs[i]?.getD 0 < n :=
  (vB_mem h).2.2 _ (by simp [hi])
theorem gB_nodup {zs : List Int} {m : Int} (h : goodTo zs m zs.length = true) : zs.Nodup := by
  rw [List.Nodup, List.pairwise_iff_getElem]
  intro i j hi hj hij e
  simp only [goodTo, List.all_eq_true, List.mem_range] at h
  have := h j hj
  simp only [Bool.and_eq_true, Bool.not_eq_true', hasB] at this
  have h2 := this.2
  simp only [hj, List.getElem?_eq_getElem, Option.getD_some, List.contains_eq_mem, decide_eq_false_iff_not] at h2
  exact h2 (by rw [← e]; exact List.mem_take_iff_getElem.2 ⟨i, by omega, rfl⟩)
theorem vB_nodup {zs : List Int} {n : Int} (h : validB zs n = true) : zs.Nodup := by
  have hm := vB_mem h
  rw [validB_in hm.1 hm.2.1] at h
  exact gB_nodup h
/-- Different numbers from 0 to n-1 are at most n. -/
theorem few_of : ∀ (n : Nat) (l : List Int), l.Nodup → (∀ z ∈ l, 0 ≤ z ∧ z < (n : Int)) → l.length ≤ n
  | 0, l, _, h => by
    cases l with
    | nil => exact Nat.le_refl 0
    | cons z t => have := h z (by simp); omega
  | n + 1, l, hd, h => by
    by_cases hm : (n : Int) ∈ l
    · have h1 := few_of n (l.erase (n : Int)) (hd.erase _) (fun z hz => by
        have hz' := (hd.mem_erase_iff).1 hz
        have := h z hz'.2
        have hne := hz'.1
        omega)
      rw [List.length_erase_of_mem hm] at h1
      omega
    · have h1 := few_of n l hd (fun z hz => by
        have := h z hz
        have hne : z ≠ (n : Int) := fun e => hm (e ▸ hz)
        omega)
      omega
theorem vB_short {zs : List Int} {n : Int} (h : validB zs n = true) : (zs.length : Int) ≤ n := by
  have hm := vB_mem h
  obtain ⟨k, rfl⟩ := Int.eq_ofNat_of_zero_le (by omega : 0 ≤ n)
  have := few_of k zs (vB_nodup h) hm.2.2
  omega
/-- A list of at most n different numbers from 0 on is a ballot. -/
theorem vB_of {zs : List Int} {n : Int} (h1 : 1 ≤ n) (h5 : n ≤ 5) (hd : zs.Nodup) (hm : ∀ z ∈ zs, 0 ≤ z ∧ z < n) : validB zs n = true := by
  rw [validB_in h1 h5]
  simp only [goodL, goodTo, List.all_eq_true, List.mem_range, Bool.and_eq_true, Bool.not_eq_true']
  intro i hi
  have e : zs[i]?.getD 0 = zs[i] := by simp [hi]
  rw [e]
  refine ⟨?_, ?_⟩
  · have := hm zs[i] (List.getElem_mem hi)
    simp [inB]; omega
  · simp only [hasB, List.contains_eq_mem, decide_eq_false_iff_not]
    intro hc
    obtain ⟨j, hj, e2⟩ := List.mem_take_iff_getElem.1 hc
    have := (List.pairwise_iff_getElem.1 hd) j i (by omega) hi (by omega)
    exact this e2

/-- The marks of a ballot, when k of its candidates have theirs. -/
def ofTo (n : Nat) (zs : List Int) (k : Nat) : List Int := (List.range k).foldl (fun (acc : List Int) (i : Nat) => acc.set (zs[i]?.getD 0).toNat ((i : Int) + 1)) (List.replicate n 0)
theorem ofTo_zero (n : Nat) (zs : List Int) : ofTo n zs 0 = List.replicate n 0 := rfl
theorem ofTo_succ (n : Nat) (zs : List Int) (k : Nat) : ofTo n zs (k + 1) = (ofTo n zs k).set (zs[k]?.getD 0).toNat ((k : Int) + 1) := by
  simp [ofTo, List.range_succ]
theorem ofTo_length (n : Nat) (zs : List Int) (k : Nat) : (ofTo n zs k).length = n := by
  induction k with
  | zero => simp [ofTo]
  | succ k ih => rw [ofTo_succ, List.length_set, ih]
theorem ofTo_app (n : Nat) (pre t : List Int) (k : Nat) (h : k ≤ pre.length) : ofTo n (pre ++ t) k = ofTo n pre k := by
  induction k with
  | zero => rfl
  | succ k ih =>
    rw [ofTo_succ, ofTo_succ, ih (by omega), List.getElem?_append_left (by omega)]
def ofL (n : Nat) (zs : List Int) : List Int := ofTo n zs zs.length
theorem ofL_nil (n : Nat) : ofL n [] = List.replicate n 0 := rfl
theorem ofL_length (n : Nat) (zs : List Int) : (ofL n zs).length = n := ofTo_length _ _ _
theorem ofL_snoc (n : Nat) (pre : List Int) (x : Int) : ofL n (pre ++ [x]) = (ofL n pre).set x.toNat ((pre.length : Int) + 1) := by
  unfold ofL
  rw [List.length_append, List.length_singleton, ofTo_succ, ofTo_app _ _ _ _ (Nat.le_refl _)]
  simp
/-- What MarksOf returns. -/
def markOfL (zs : List Int) (n : Int) : List Int := if validB zs n = true then ofL n.toNat zs else []
theorem markOfL_yes {zs : List Int} {n : Int} (h : validB zs n = true) : markOfL zs n = ofL n.toNat zs := by rw [markOfL, if_pos h]
theorem markOfL_no {zs : List Int} {n : Int} (h : validB zs n = false) : markOfL zs n = [] := by rw [markOfL, h]; rfl
theorem markOfL_short (zs : List Int) (n : Int) : (markOfL zs n).length ≤ 5 := by
  cases h : validB zs n
  · simp [markOfL, h]
  · rw [markOfL_yes h, ofL_length]
    have := vB_mem h
    omega

end Go.Proofs.YtpgnneaaemfkoaaDoor
