/-
  What is read off marks: it is a ballot; the marks of a ballot lead back to it; where it ends; marks that are all greater by 1. Of no memory.
-/
import Derived.Test.YtpgnneaaemfkoaaDoorReadP
import Derived.Test.YtpgnneaaemfkoaaDoorOfL
namespace Go.Proofs.YtpgnneaaemfkoaaDoor

theorem withTo_single {zs : List Int} {r : Int} {c K : Nat} (h : ∀ j, j < K → (zs[j]?.getD 0 = r ↔ j = c)) : ∀ k, k ≤ K → withTo zs r k = if c < k then [(c : Int)] else []
  | 0, _ => by rw [if_neg (by omega)]; rfl
  | k + 1, hk => by
    have ih := withTo_single h k (by omega)
    by_cases e : k = c
    · subst e
      rw [withTo_yes ((h k (by omega)).2 rfl), ih, if_neg (by omega), if_pos (by omega)]; rfl
    · rw [withTo_no (fun h2 => e ((h k (by omega)).1 h2)), ih]
      by_cases h3 : c < k
      · rw [if_pos h3, if_pos (by omega)]
      · rw [if_neg h3, if_neg (by omega)]
theorem withTo_nobody {zs : List Int} {r : Int} : ∀ k, (∀ j, j < k → zs[j]?.getD 0 ≠ r) → withTo zs r k = []
  | 0, _ => rfl
  | k + 1, h => by rw [withTo_no (h k (by omega))]; exact withTo_nobody k (fun j hj => h j (by omega))

/-- The mark of each candidate of a ballot. -/
theorem ofTo_at {zs : List Int} {n : Nat} (hd : zs.Nodup) (hm : ∀ z ∈ zs, 0 ≤ z ∧ z < (n : Int)) : ∀ k, k ≤ zs.length → ∀ c, c < n →
    (∀ i, i < k → zs[i]?.getD 0 = (c : Int) → (ofTo n zs k)[c]?.getD 0 = (i : Int) + 1) ∧ ((∀ i, i < k → zs[i]?.getD 0 ≠ (c : Int)) → (ofTo n zs k)[c]?.getD 0 = 0)
  | 0, _, c, hc => ⟨fun i hi => by omega, fun _ => by simp [ofTo, hc]⟩
  | k + 1, hk, c, hc => by
    obtain ⟨h1, h2⟩ := ofTo_at hd hm k (by omega) c hc
    have hkz : zs[k]?.getD 0 = zs[k]'(by omega) := by simp [show k < zs.length from by omega]
    have hr := hm (zs[k]'(by omega)) (List.getElem_mem _)
    rw [← hkz] at hr
    obtain ⟨q, hq⟩ := Int.eq_ofNat_of_zero_le hr.1
    rw [ofTo_succ, hq, Int.toNat_natCast]
    have hlen := ofTo_length n zs k
    by_cases e : q = c
    · subst e
      rw [List.getElem?_set_self (by omega)]
      refine ⟨fun i hi hz => ?_, fun h => absurd hq (h k (by omega))⟩
      have : i = k := by
        apply Decidable.byContradiction
        intro hne
        have hlt : i < k := by omega
        have h3 := (List.pairwise_iff_getElem.1 hd) i k (by omega) (by omega) hlt
        apply h3
        have e1 : zs[i]?.getD 0 = zs[i]'(by omega) := by simp [show i < zs.length from by omega]
        rw [← e1, ← hkz, hz, hq]
      subst this
      rfl
    · rw [List.getElem?_set_ne e]
      refine ⟨fun i hi hz => ?_, fun h => h2 (fun i hi => h i (by omega))⟩
      by_cases e2 : i = k
      · subst e2; rw [hq] at hz; omega
      · exact h1 i (by omega) hz
theorem ofL_at {zs : List Int} {n : Nat} (hv : validB zs (n : Int) = true) (c : Nat) (hc : c < n) :
    (∀ i, i < zs.length → zs[i]?.getD 0 = (c : Int) → (ofL n zs)[c]?.getD 0 = (i : Int) + 1) ∧ ((∀ i, i < zs.length → zs[i]?.getD 0 ≠ (c : Int)) → (ofL n zs)[c]?.getD 0 = 0) :=
  ofTo_at (vB_nodup hv) (vB_mem hv).2.2 zs.length (Nat.le_refl _) c hc
theorem ofL_cases {zs : List Int} {n : Nat} (hv : validB zs (n : Int) = true) (c : Nat) (hc : c < n) : (ofL n zs)[c]?.getD 0 = 0 ∨ ∃ i, i < zs.length ∧ zs[i]?.getD 0 = (c : Int) ∧ (ofL n zs)[c]?.getD 0 = (i : Int) + 1 := by
  obtain ⟨h1, h2⟩ := ofL_at hv c hc
  by_cases h : ∃ i, i < zs.length ∧ zs[i]?.getD 0 = (c : Int)
  · obtain ⟨i, hi, hz⟩ := h
    exact .inr ⟨i, hi, hz, h1 i hi hz⟩
  · exact .inl (h2 (fun i hi hz => h ⟨i, hi, hz⟩))
theorem ofL_rank {zs : List Int} {n : Nat} (hv : validB zs (n : Int) = true) : rankB (ofL n zs) = true := by
  have hm := vB_mem hv
  have hs := vB_short hv
  simp only [rankB, rankTo, Bool.and_eq_true, List.all_eq_true, List.mem_range, inB, decide_eq_true_eq, ofL_length]
  refine ⟨fun c hc => ?_, by omega⟩
  rcases ofL_cases hv c hc with e | ⟨i, hi, _, e⟩
  · omega
  · omega
theorem ofL_with {zs : List Int} {n : Nat} (hv : validB zs (n : Int) = true) (i : Nat) : withL (ofL n zs) ((i + 1 : Nat) : Int) = if i < zs.length then [zs[i]?.getD 0] else [] := by
  unfold withL
  rw [ofL_length]
  by_cases hi : i < zs.length
  · rw [if_pos hi]
    have hr := vB_at hv i hi
    obtain ⟨c, hc⟩ := Int.eq_ofNat_of_zero_le hr.1
    rw [hc] at hr ⊢
    have hcn : c < n := by omega
    rw [withTo_single (c := c) (K := n) (fun j hj => ?_) n (Nat.le_refl _), if_pos hcn]
    constructor
    · intro h
      rcases ofL_cases hv j hj with e | ⟨i', hi', hz', e⟩
      · omega
      · have : i' = i := by omega
        subst this
        rw [hc] at hz'; omega
    · rintro rfl
      have := (ofL_at hv j hj).1 i hi hc
      omega
  · rw [if_neg hi]
    refine withTo_nobody n (fun j hj h => ?_)
    rcases ofL_cases hv j hj with e | ⟨i', hi', _, e⟩
    · omega
    · omega
theorem ofL_from {zs : List Int} {n : Nat} (hv : validB zs (n : Int) = true) : ∀ (d i : Nat), i + d = 9 → readFrom (ofL n zs) (i + 1) = zs.drop i
  | 0, i, h => by
    obtain rfl : i = 9 := by omega
    have hs := vB_short hv
    have hm := vB_mem hv
    rw [readFrom_end, List.drop_of_length_le (by omega)]
  | d + 1, i, h => by
    have ih := ofL_from hv d (i + 1) (by omega)
    rw [readFrom_step _ _ (by omega), ofL_with hv i, ih]
    by_cases hi : i < zs.length
    · rw [if_pos hi, if_neg (by simp), List.drop_eq_getElem_cons hi]
      simp [hi]
    · rw [if_neg hi, if_neg (by simp), List.drop_of_length_le (by omega), List.drop_of_length_le (by omega)]; rfl
/-- **The marks of a ballot lead back to it.** -/
theorem read_of {zs : List Int} {n : Int} (hv : validB zs n = true) : rankB (markOfL zs n) = true ∧ readL (markOfL zs n) = zs ∧ ((markOfL zs n).length : Int) = n := by
  have hm := vB_mem hv
  obtain ⟨k, rfl⟩ := Int.eq_ofNat_of_zero_le (by omega : 0 ≤ n)
  rw [markOfL_yes hv, Int.toNat_natCast]
  refine ⟨ofL_rank hv, ?_, by rw [ofL_length]⟩
  rw [readL_yes (ofL_rank hv)]
  exact ofL_from hv 9 0 rfl

/-- What is read: each candidate has a mark that nobody else has, greater than that of the one ahead. -/
def Good (zs : List Int) : Nat → List Int → Prop
  | _, [] => True
  | lo, x :: t => ∃ r : Nat, lo ≤ r ∧ withL zs (r : Int) = [x] ∧ Good zs (r + 1) t
theorem Good.mono {zs : List Int} {lo lo' : Nat} {out : List Int} (h : Good zs lo out) (hl : lo' ≤ lo) : Good zs lo' out := by
  cases out with
  | nil => trivial
  | cons x t => obtain ⟨r, h1, h2, h3⟩ := h; exact ⟨r, by omega, h2, h3⟩
theorem from_good (zs : List Int) : ∀ (d r : Nat), r + d = 10 → Good zs r (readFrom zs r)
  | 0, r, h => by obtain rfl : r = 10 := by omega
                  trivial
  | d + 1, r, h => by
    have ih := from_good zs d (r + 1) (by omega)
    rw [readFrom_step zs r (by omega)]
    by_cases hs : 1 < (withL zs (r : Int)).length
    · rw [if_pos hs]; trivial
    · rw [if_neg hs]
      rcases Nat.lt_or_ge 0 (withL zs (r : Int)).length with h1 | h1
      · obtain ⟨x, hx⟩ := List.length_eq_one_iff.1 (show (withL zs (r : Int)).length = 1 by omega)
        rw [hx]
        exact ⟨r, Nat.le_refl _, hx, ih⟩
      · rw [List.length_eq_zero_iff.1 (show (withL zs (r : Int)).length = 0 by omega)]
        exact ih.mono (by omega)
theorem Good.mem {zs : List Int} {lo : Nat} {out : List Int} (h : Good zs lo out) : ∀ x ∈ out, ∃ r : Nat, lo ≤ r ∧ withL zs (r : Int) = [x] := by
  induction out generalizing lo with
  | nil => intro x hx; cases hx
  | cons y t ih =>
    obtain ⟨r, h1, h2, h3⟩ := h
    intro x hx
    rcases List.mem_cons.1 hx with e | hx
    · subst e; exact ⟨r, h1, h2⟩
    · obtain ⟨q, g1, g2⟩ := ih h3 x hx
      exact ⟨q, by omega, g2⟩
theorem Good.nodup {zs : List Int} {lo : Nat} {out : List Int} (h : Good zs lo out) : out.Nodup := by
  induction out generalizing lo with
  | nil => exact List.nodup_nil
  | cons y t ih =>
    obtain ⟨r, h1, h2, h3⟩ := h
    refine List.nodup_cons.2 ⟨fun hy => ?_, ih h3⟩
    obtain ⟨q, g1, g2⟩ := h3.mem y hy
    obtain ⟨i, e, _, hz, _⟩ := withL_one h2
    obtain ⟨j, e', _, hz', _⟩ := withL_one g2
    have : i = j := by omega
    subst this
    omega
/-- What stands at a place of what is read. -/
theorem Good.at {zs : List Int} {lo : Nat} {out : List Int} (h : Good zs lo out) : ∀ i, i < out.length → ∃ r : Nat, lo ≤ r ∧ withL zs (r : Int) = [out[i]?.getD 0] ∧ (0 < i → ∃ q : Nat, q < r ∧ withL zs (q : Int) = [out[i - 1]?.getD 0]) := by
  induction out generalizing lo with
  | nil => intro i hi; simp at hi
  | cons y t ih =>
    obtain ⟨r, h1, h2, h3⟩ := h
    intro i hi
    cases i with
    | zero => exact ⟨r, h1, by simpa using h2, fun h => by omega⟩
    | succ i =>
      obtain ⟨q, g1, g2, g3⟩ := ih h3 i (by simpa using hi)
      refine ⟨q, by omega, by simpa using g2, fun _ => ?_⟩
      cases i with
      | zero => exact ⟨r, by omega, by simpa using h2⟩
      | succ j =>
        obtain ⟨p, k1, k2⟩ := g3 (by omega)
        exact ⟨p, k1, by simpa using k2⟩
theorem read_good {zs : List Int} (hr : rankB zs = true) : Good zs 1 (readL zs) := by rw [readL_yes hr]; exact from_good zs 9 1 rfl
/-- **What is read is a ballot.** -/
theorem read_ballot {zs : List Int} (hr : rankB zs = true) : validB (readL zs) (zs.length : Int) = true := by
  have hl := rankB_len hr
  refine vB_of (by omega) (by omega) (read_good hr).nodup (fun x hx => ?_)
  obtain ⟨r, _, h2⟩ := (read_good hr).mem x hx
  obtain ⟨i, rfl, hi, _⟩ := withL_one h2
  omega

/-- Who is read: whose mark, and all below, nobody shares. -/
theorem mem_from (zs : List Int) (x : Int) : ∀ (d r : Nat), r + d = 10 → (x ∈ readFrom zs r ↔ ∃ m : Nat, r ≤ m ∧ m < 10 ∧ x ∈ withL zs (m : Int) ∧ ∀ j : Nat, r ≤ j → j ≤ m → (withL zs (j : Int)).length ≤ 1)
  | 0, r, h => by
    obtain rfl : r = 10 := by omega
    constructor
    · intro hx; cases hx
    · rintro ⟨m, h1, h2, _⟩; omega
  | d + 1, r, h => by
    have ih := mem_from zs x d (r + 1) (by omega)
    rw [readFrom_step zs r (by omega)]
    by_cases hs : 1 < (withL zs (r : Int)).length
    · rw [if_pos hs]
      constructor
      · intro hx; cases hx
      · rintro ⟨m, h1, h2, _, h4⟩
        have := h4 r (Nat.le_refl _) h1; omega
    · rw [if_neg hs, List.mem_append, ih]
      constructor
      · rintro (hx | ⟨m, h1, h2, h3, h4⟩)
        · refine ⟨r, Nat.le_refl _, by omega, hx, fun j h1 h2 => ?_⟩
          obtain rfl : j = r := by omega
          omega
        · refine ⟨m, by omega, h2, h3, fun j g1 g2 => ?_⟩
          by_cases e : j = r
          · subst e; omega
          · exact h4 j (by omega) g2
      · rintro ⟨m, h1, h2, h3, h4⟩
        by_cases e : m = r
        · subst e; exact .inl h3
        · exact .inr ⟨m, by omega, h2, h3, fun j g1 g2 => h4 j (by omega) g2⟩

/-- All marks but 0 greater by 1. -/
def upL (zs : List Int) : List Int := zs.map fun z => if 0 < z then z + 1 else z
theorem upL_length (zs : List Int) : (upL zs).length = zs.length := by simp [upL]
theorem upL_at (zs : List Int) (i : Nat) (hi : i < zs.length) : (upL zs)[i]?.getD 0 = if 0 < zs[i]?.getD 0 then zs[i]?.getD 0 + 1 else zs[i]?.getD 0 := by simp [upL, hi]
theorem up_with {zs : List Int} (h0 : ∀ i, i < zs.length → 0 ≤ zs[i]?.getD 0) (r : Nat) (hr : 1 ≤ r) : ∀ k, k ≤ zs.length → withTo (upL zs) ((r : Int) + 1) k = withTo zs (r : Int) k
  | 0, _ => rfl
  | k + 1, hk => by
    have ih := up_with h0 r hr k (by omega)
    have hu := upL_at zs k (by omega)
    have hz := h0 k (by omega)
    by_cases e : zs[k]?.getD 0 = (r : Int)
    · rw [withTo_yes e, withTo_yes (by rw [hu, if_pos (by omega)]; omega), ih]
    · rw [withTo_no e, withTo_no (by rw [hu]; split <;> omega), ih]
theorem up_from {zs : List Int} (h0 : ∀ i, i < zs.length → 0 ≤ zs[i]?.getD 0 ∧ zs[i]?.getD 0 ≤ 8) : ∀ (d r : Nat), r + d = 9 → 1 ≤ r → readFrom (upL zs) (r + 1) = readFrom zs r
  | 0, r, h, _ => by
    obtain rfl : r = 9 := by omega
    have hw : withL zs ((9 : Nat) : Int) = [] := withTo_nobody _ (fun j hj => by have := h0 j hj; omega)
    rw [readFrom_end, readFrom_step zs 9 (by omega), hw, readFrom_end]; rfl
  | d + 1, r, h, hr => by
    have ih := up_from h0 d (r + 1) (by omega) (by omega)
    have hw : withL (upL zs) ((r + 1 : Nat) : Int) = withL zs (r : Int) := by
      unfold withL
      rw [upL_length, show ((r + 1 : Nat) : Int) = (r : Int) + 1 from by omega]
      exact up_with (fun i hi => (h0 i hi).1) r hr zs.length (Nat.le_refl _)
    rw [readFrom_step (upL zs) (r + 1) (by omega), readFrom_step zs r (by omega), hw, ih]
/-- **Only the order of marks counts.** -/
theorem read_up {zs : List Int} (hr : rankB zs = true) (h8 : ∀ i, i < zs.length → zs[i]?.getD 0 ≤ 8) : rankB (upL zs) = true ∧ readL (upL zs) = readL zs := by
  have hl := rankB_len hr
  have h0 : ∀ i, i < zs.length → 0 ≤ zs[i]?.getD 0 ∧ zs[i]?.getD 0 ≤ 8 := fun i hi => ⟨(rankB_at hr i hi).1, h8 i hi⟩
  have hu : rankB (upL zs) = true := by
    simp only [rankB, rankTo, Bool.and_eq_true, List.all_eq_true, List.mem_range, inB, decide_eq_true_eq, upL_length]
    refine ⟨fun i hi => ?_, by omega⟩
    rw [upL_at zs i hi]
    have := h0 i hi
    split <;> omega
  refine ⟨hu, ?_⟩
  rw [readL_yes hu, readL_yes hr]
  have h1 : withL (upL zs) ((1 : Nat) : Int) = [] := by
    refine withTo_nobody _ (fun j hj => ?_)
    rw [upL_length] at hj
    rw [upL_at zs j hj]
    have := h0 j hj
    split <;> omega
  rw [readFrom_pass (upL zs) (by omega) h1]
  exact up_from h0 8 1 rfl (by omega)

/-- The least mark that two have, or 10: what is known of it when the pairs before (i, k) are seen. -/
def Least (zs : List Int) (i k : Nat) (L : Int) : Prop := 1 ≤ L ∧ L ≤ 10 ∧
  (∀ i' k', k' < i' → i' < zs.length → (i' < i ∨ (i' = i ∧ k' < k)) → zs[i']?.getD 0 = zs[k']?.getD 0 → 0 < zs[i']?.getD 0 → L ≤ zs[i']?.getD 0) ∧
  (L = 10 ∨ ∃ i' k', k' < i' ∧ i' < zs.length ∧ zs[i']?.getD 0 = zs[k']?.getD 0 ∧ zs[i']?.getD 0 = L)
theorem least_start (zs : List Int) : Least zs 0 0 10 := ⟨by omega, by omega, fun i' k' h1 _ h3 => by omega, .inl rfl⟩
theorem Least.row {zs : List Int} {i k : Nat} {L : Int} (h : Least zs i k L) (hk : i ≤ k) : Least zs (i + 1) 0 L :=
  ⟨h.1, h.2.1, fun i' k' h1 h2 h3 => h.2.2.1 i' k' h1 h2 (by omega), h.2.2.2⟩
theorem Least.skip {zs : List Int} {i k : Nat} {L : Int} (h : Least zs i k L) (hn : ¬ (zs[i]?.getD 0 = zs[k]?.getD 0 ∧ 0 < zs[i]?.getD 0)) : Least zs i (k + 1) L :=
  ⟨h.1, h.2.1, fun i' k' h1 h2 h3 h4 h5 => by
    by_cases e : i' = i ∧ k' = k
    · obtain ⟨rfl, rfl⟩ := e; exact absurd ⟨h4, h5⟩ hn
    · exact h.2.2.1 i' k' h1 h2 (by omega) h4 h5, h.2.2.2⟩
theorem Least.take {zs : List Int} {i k : Nat} {L : Int} (h : Least zs i k L) (hk : k < i) (hi : i < zs.length) (he : zs[i]?.getD 0 = zs[k]?.getD 0) (hp : 0 < zs[i]?.getD 0) : Least zs i (k + 1) (if zs[i]?.getD 0 < L then zs[i]?.getD 0 else L) := by
  have h10 := h.2.1
  have h1' := h.1
  refine ⟨by split <;> omega, by split <;> omega, fun i' k' h1 h2 h3 h4 h5 => ?_, ?_⟩
  · by_cases e : i' = i ∧ k' = k
    · obtain ⟨rfl, rfl⟩ := e; split <;> omega
    · have := h.2.2.1 i' k' h1 h2 (by omega) h4 h5
      split <;> omega
  · by_cases hc : zs[i]?.getD 0 < L
    · rw [if_pos hc]; exact .inr ⟨i, k, hk, hi, he, rfl⟩
    · rw [if_neg hc]; exact h.2.2.2
theorem two_of {zs : List Int} {r : Int} : ∀ k, 2 ≤ (withTo zs r k).length → ∃ i' k', k' < i' ∧ i' < k ∧ zs[i']?.getD 0 = r ∧ zs[k']?.getD 0 = r
  | 0, h => by simp [withTo] at h
  | k + 1, h => by
    by_cases e : zs[k]?.getD 0 = r
    · rw [withTo_yes e] at h
      have h1 : 1 ≤ (withTo zs r k).length := by simp at h; omega
      obtain ⟨x, hx⟩ := List.exists_mem_of_length_pos (show 0 < (withTo zs r k).length by omega)
      simp only [withTo, List.mem_map, List.mem_filter, List.mem_range, beq_iff_eq] at hx
      obtain ⟨j, ⟨hj, hz⟩, _⟩ := hx
      exact ⟨k, j, hj, by omega, e, hz⟩
    · rw [withTo_no e] at h
      obtain ⟨i', k', h1, h2, h3, h4⟩ := two_of k h
      exact ⟨i', k', h1, by omega, h3, h4⟩
theorem of_two {zs : List Int} {r : Int} {i k : Nat} (hk : k < i) (hi : i < zs.length) (h1 : zs[i]?.getD 0 = r) (h2 : zs[k]?.getD 0 = r) : 2 ≤ (withL zs r).length := by
  apply Decidable.byContradiction
  intro hn
  have m1 : (i : Int) ∈ withL zs r := withL_mem.2 ⟨i, hi, h1, rfl⟩
  have m2 : (k : Int) ∈ withL zs r := withL_mem.2 ⟨k, by omega, h2, rfl⟩
  rcases Nat.lt_or_ge 0 (withL zs r).length with h | h
  · obtain ⟨y, hy⟩ := List.length_eq_one_iff.1 (show (withL zs r).length = 1 by omega)
    rw [hy, List.mem_singleton] at m1 m2
    omega
  · rw [List.length_eq_zero_iff.1 (show (withL zs r).length = 0 by omega)] at m1
    cases m1
/-- **A ballot ends where marks are equal.** -/
theorem read_end {zs : List Int} (hr : rankB zs = true) {L : Int} (h : Least zs zs.length 0 L) (c : Nat) (hc : c < zs.length) : hasB (readL zs) (c : Int) = decide (0 < zs[c]?.getD 0 ∧ zs[c]?.getD 0 < L) := by
  rw [readL_yes hr]
  unfold hasB
  rw [List.contains_eq_mem]
  apply decide_eq_decide.2
  rw [mem_from zs _ 9 1 rfl]
  have h9 := rankB_at hr c hc
  obtain ⟨q, hq⟩ := Int.eq_ofNat_of_zero_le h9.1
  constructor
  · rintro ⟨m, h1, h2, h3, h4⟩
    obtain ⟨i, hi, hz, e⟩ := withL_mem.1 h3
    obtain rfl : i = c := by omega
    rw [hz]
    refine ⟨by omega, ?_⟩
    apply Decidable.byContradiction
    intro hn
    rcases h.2.2.2 with e10 | ⟨i', k', g1, g2, g3, g4⟩
    · omega
    · obtain ⟨p, hp⟩ := Int.eq_ofNat_of_zero_le (show 0 ≤ L by have := h.1; omega)
      have := h4 p (by have := h.1; omega) (by omega)
      have h5 := of_two g1 g2 (by rw [g4, hp]) (by rw [← g3, g4, hp]) (r := (p : Int))
      omega
  · rintro ⟨h1, h2⟩
    rw [hq] at h1 h2
    refine ⟨q, by omega, by omega, withL_mem.2 ⟨c, hc, hq, rfl⟩, fun j g1 g2 => ?_⟩
    apply Decidable.byContradiction
    intro hn
    obtain ⟨i', k', f1, f2, f3, f4⟩ := two_of zs.length (show 2 ≤ (withTo zs (j : Int) zs.length).length by unfold withL at hn; omega)
    have := h.2.2.1 i' k' f1 f2 (by omega) (by rw [f3, f4]) (by omega)
    omega

end Go.Proofs.YtpgnneaaemfkoaaDoor
