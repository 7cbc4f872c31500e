/-
  The first candidate of a ballot who has not left, as lists. Of no memory.
  First preferences are counted, as lists: of ballots that come one pile after the other, of parts, and when somebody leaves. Of no memory.
  The greatest of some counts, of several ones the one who comes first in the lots: who it is, that there is one alone, and with two candidates exchanged. Of no memory.
  Transfers with reduced fractions, as both programs compute them: counts, who is taken, weights, states. Of no memory.
-/
import Derived.Test.YtafnmongglhlaaaGrp1
import Derived.Test.YtafnmongglhlaaaGrp9
import Derived.Test.YtafnmongglhlaaaGrp2
import Derived.Test.YtafnmongglhlaaaGrp10
import Derived.Test.YtafnmongglhlaaaGrp11
namespace Go.Proofs.Ytafnmongglhlaaa

/-- The first of zs who has not left, or -1. -/
def firstL : List Int → List Bool → Int
  | [], _ => -1
  | z :: t, L => if L[z.toNat]?.getD false = true then firstL t L else z
theorem firstL_app {pre : List Int} {L : List Bool} (h : ∀ z ∈ pre, L[z.toNat]?.getD false = true) (rest : List Int) : firstL (pre ++ rest) L = firstL rest L := by
  induction pre with
  | nil => rfl
  | cons z t ih =>
    rw [List.cons_append, firstL, if_pos (h z (by simp))]
    exact ih (fun u hu => h u (by simp [hu]))
def firstB (zs : List Int) (L : List Bool) : Int := if validB zs (L.length : Int) = true then firstL zs L else -1

theorem firstL_mem (zs : List Int) (L : List Bool) : firstL zs L = -1 ∨ firstL zs L ∈ zs := by
  induction zs with
  | nil => exact .inl rfl
  | cons z t ih =>
    unfold firstL
    split
    · rcases ih with h | h
      · exact .inl h
      · exact .inr (by simp [h])
    · exact .inr (by simp)
theorem firstL_here {zs : List Int} {L : List Bool} (hz : ∀ z ∈ zs, 0 ≤ z) (h : 0 ≤ firstL zs L) : L[(firstL zs L).toNat]?.getD false = false := by
  induction zs with
  | nil => simp [firstL] at h
  | cons z t ih =>
    unfold firstL at h ⊢
    split
    · rename_i h1
      rw [if_pos h1] at h
      exact ih (fun u hu => hz u (by simp [hu])) h
    · rename_i h1
      simpa using h1
theorem set_at (L : List Bool) (k i : Nat) (h : k < L.length) : (L.set k true)[i]?.getD false = if i = k then true else L[i]?.getD false := by
  rw [List.getElem?_set]
  by_cases e : k = i
  · subst e; simp [h]
  · rw [if_neg e, if_neg (fun h => e h.symm)]
/-- Who stays is still the first one when another one leaves. -/
theorem firstL_set {zs : List Int} {L : List Bool} {k : Nat} (hk : k < L.length) (hz : ∀ z ∈ zs, 0 ≤ z) (h : firstL zs L ≠ (k : Int)) : firstL zs (L.set k true) = firstL zs L := by
  induction zs with
  | nil => rfl
  | cons z t ih =>
    have hz0 := hz z (by simp)
    unfold firstL at h ⊢
    by_cases h1 : L[z.toNat]?.getD false = true
    · rw [if_pos h1] at h ⊢
      rw [if_pos (by rw [set_at _ _ _ hk]; split <;> simp [h1])]
      exact ih (fun u hu => hz u (by simp [hu])) h
    · rw [if_neg h1] at h ⊢
      rw [if_neg (by rw [set_at _ _ _ hk, if_neg (by omega)]; exact h1)]
theorem firstL_set_some {zs : List Int} {L : List Bool} {k : Nat} (hk : k < L.length) (hz : ∀ z ∈ zs, 0 ≤ z) (h : 0 ≤ firstL zs (L.set k true)) : 0 ≤ firstL zs L := by
  by_cases e : firstL zs L = (k : Int)
  · omega
  · rwa [firstL_set hk hz e] at h
theorem firstL_none (zs : List Int) (n : Nat) : firstL zs (List.replicate n false) = zs.head?.getD (-1) := by
  cases zs with
  | nil => rfl
  | cons z t =>
    unfold firstL
    rw [if_neg (by rw [List.getElem?_replicate]; split <;> simp)]
    rfl

end Go.Proofs.Ytafnmongglhlaaa

namespace Go.Proofs.Ytafnmongglhlaaa

/-- Whether a text's first candidate is k. -/
def oneF (L : List Bool) (k : Nat) (t : ByteArray) : Int := if firstL (parseL t) L = (k : Int) then 1 else 0
/-- The counts of first preferences. -/
def countsL (ps : List Pl) (L : List Bool) : List Int := (List.range L.length).map fun k => wsum (oneF L k) ps
theorem countsL_length (ps : List Pl) (L : List Bool) : (countsL ps L).length = L.length := by simp [countsL]
theorem countsL_at (ps : List Pl) (L : List Bool) {k : Nat} (h : k < L.length) : (countsL ps L)[k]?.getD 0 = wsum (oneF L k) ps := by
  simp [countsL, h]
theorem countsL_nil (L : List Bool) : countsL [] L = List.replicate L.length 0 := by
  refine List.ext_getElem (by simp [countsL]) (fun i h1 h2 => ?_)
  simp [countsL, wsum_nil]
theorem countsL_hit {pre : List Pl} {p : Pl} {L : List Bool} {k : Nat} (hk : k < L.length) (h : firstL (parseL p.1) L = (k : Int)) : countsL (pre ++ [p]) L = (countsL pre L).set k ((countsL pre L)[k]?.getD 0 + p.2) := by
  rw [countsL_at _ _ hk]
  refine List.ext_getElem (by simp [countsL]) (fun i h1 h2 => ?_)
  have hi : i < L.length := by rwa [countsL_length] at h1
  rw [List.getElem_set]
  simp only [countsL, List.getElem_map, List.getElem_range, wsum_snoc]
  by_cases e : k = i
  · subst e
    rw [if_pos rfl]
    simp only [oneF, h, if_true, Int.one_mul]
  · rw [if_neg e]
    have : oneF L i p.1 = 0 := by unfold oneF; rw [h, if_neg (by omega)]
    rw [this, Int.zero_mul, Int.add_zero]
theorem countsL_miss {pre : List Pl} {p : Pl} {L : List Bool} (h : firstL (parseL p.1) L < 0) : countsL (pre ++ [p]) L = countsL pre L := by
  refine List.ext_getElem (by simp [countsL]) (fun i h1 h2 => ?_)
  simp only [countsL, List.getElem_map, List.getElem_range, wsum_snoc]
  have : oneF L i p.1 = 0 := by unfold oneF; rw [if_neg (by omega)]
  rw [this, Int.zero_mul, Int.add_zero]

theorem oneF_low (L : List Bool) (k : Nat) (t : ByteArray) : 0 ≤ oneF L k t := by unfold oneF; split <;> omega
theorem oneF_high (L : List Bool) (k : Nat) (t : ByteArray) : oneF L k t ≤ 1 := by unfold oneF; split <;> omega
theorem parse_pos (t : ByteArray) : ∀ z ∈ parseL t, 0 ≤ z := by
  intro z hz
  cases hv : validB (nums t) 5
  · rw [parseL_no hv] at hz; cases hz
  · rw [parseL_ok hv] at hz; exact ((vB_mem hv).2.2 z hz).1
/-- **Each ballot counts once.** -/
theorem counts_left {ps : List Pl} {L : List Bool} {k : Nat} (hk : k < L.length) (h : L[k]?.getD false = true) : (countsL ps L)[k]?.getD 0 = 0 := by
  rw [countsL_at _ _ hk, ← wsum_zero ps]
  refine wsum_congr (fun p _ => ?_)
  unfold oneF
  refine if_neg (fun e => ?_)
  have := firstL_here (parse_pos p.1) (L := L) (by omega)
  rw [e, Int.toNat_natCast, h] at this
  cases this
theorem counts_low {ps : List Pl} {L : List Bool} {k : Nat} (hk : k < L.length) (hp : ∀ p ∈ ps, 1 ≤ p.2) : 0 ≤ (countsL ps L)[k]?.getD 0 := by
  rw [countsL_at _ _ hk]
  exact wsum_nonneg (fun p _ => oneF_low _ _ _) hp
/-- The sum of all counts: each ballot that names somebody who is there. -/
def someF (L : List Bool) (t : ByteArray) : Int := if 0 ≤ firstL (parseL t) L ∧ firstL (parseL t) L < (L.length : Int) then 1 else 0
theorem counts_sum (ps : List Pl) (L : List Bool) : totI (countsL ps L) = wsum (someF L) ps := by
  unfold countsL
  rw [totI_wsum]
  refine wsum_congr (fun p _ => ?_)
  exact totI_one L.length _
theorem counts_most {ps : List Pl} {L : List Bool} (hp : ∀ p ∈ ps, 1 ≤ p.2) : totI (countsL ps L) ≤ sumL ps := by
  rw [counts_sum]
  exact wsum_most (fun p _ => by unfold someF; split <;> omega) hp
theorem count_most {ps : List Pl} {L : List Bool} {k : Nat} (hk : k < L.length) (hp : ∀ p ∈ ps, 1 ≤ p.2) : (countsL ps L)[k]?.getD 0 ≤ sumL ps := by
  rw [countsL_at _ _ hk]
  exact wsum_most (fun p _ => oneF_high _ _ _) hp
/-- **Who stays loses nothing.** -/
theorem counts_more {ps : List Pl} {L : List Bool} {k i : Nat} (hk : k < L.length) (hi : i < L.length) (hki : i ≠ k) (hp : ∀ p ∈ ps, 1 ≤ p.2) : (countsL ps L)[i]?.getD 0 ≤ (countsL ps (L.set k true))[i]?.getD 0 := by
  rw [countsL_at _ _ hi, countsL_at _ _ (by rw [List.length_set]; exact hi)]
  refine wsum_le (fun p _ => ?_) hp
  unfold oneF
  by_cases e : firstL (parseL p.1) L = (i : Int)
  · have e2 := firstL_set hk (parse_pos p.1) (show firstL (parseL p.1) L ≠ (k : Int) by omega)
    rw [if_pos e, if_pos (by rw [e2, e])]
    exact Int.le_refl _
  · rw [if_neg e]; split <;> omega
theorem counts_more_sum {ps : List Pl} {L : List Bool} {k : Nat} (hk : k < L.length) (hp : ∀ p ∈ ps, 1 ≤ p.2) : totI (countsL ps (L.set k true)) ≤ totI (countsL ps L) := by
  rw [counts_sum, counts_sum]
  refine wsum_le (fun p _ => ?_) hp
  unfold someF
  by_cases e : firstL (parseL p.1) L = (k : Int)
  · rw [if_pos (show 0 ≤ firstL (parseL p.1) L ∧ firstL (parseL p.1) L < (L.length : Int) by omega)]
    split <;> omega
  · rw [firstL_set hk (parse_pos p.1) e, List.length_set]
    exact Int.le_refl _
/-- **Counts of parts add up.** -/
theorem counts_parts (a b : List Pl) {L : List Bool} {i : Nat} (hi : i < L.length) : (countsL (a ++ b) L)[i]?.getD 0 = (countsL a L)[i]?.getD 0 + (countsL b L)[i]?.getD 0 := by
  rw [countsL_at _ _ hi, countsL_at _ _ hi, countsL_at _ _ hi, wsum_app]
theorem counts_merge (a b : List Pl) {L : List Bool} {i : Nat} (hi : i < L.length) : (countsL (mergeL a b) L)[i]?.getD 0 = (countsL a L)[i]?.getD 0 + (countsL b L)[i]?.getD 0 := by
  rw [countsL_at _ _ hi, countsL_at _ _ hi, countsL_at _ _ hi, wsum_merge]
theorem counts_put (a : List Pl) (t : ByteArray) (m : Int) {L : List Bool} {i : Nat} (hi : i < L.length) : (countsL (putL a t m) L)[i]?.getD 0 = (countsL a L)[i]?.getD 0 + oneF L i t * m := by
  rw [countsL_at _ _ hi, countsL_at _ _ hi, wsum_put]

/-- Piles fit n candidates. -/
def fitsB (ps : List Pl) (n : Int) : Bool := pilesB ps && (inB n 1 5 && ps.all fun p => validB (nums p.1) n)

end Go.Proofs.Ytafnmongglhlaaa

namespace Go.Proofs.Ytafnmongglhlaaa

/-- The greatest of the first k counts of some, or -1. -/
def bestS (c : List Int) (s : List Bool) (k : Nat) : Int := (List.range k).foldl (fun (b : Int) (i : Nat) => if s[i]?.getD false = true then max b (c[i]?.getD 0) else b) (-1)
theorem bestS_zero (c : List Int) (s : List Bool) : bestS c s 0 = -1 := rfl
theorem bestS_succ (c : List Int) (s : List Bool) (k : Nat) : bestS c s (k + 1) = if s[k]?.getD false = true then max (bestS c s k) (c[k]?.getD 0) else bestS c s k := by
  simp [bestS, List.range_succ]
theorem bestS_ge {c : List Int} {s : List Bool} {k i : Nat} (h : i < k) (hs : s[i]?.getD false = true) : c[i]?.getD 0 ≤ bestS c s k := by
  induction k with
  | zero => omega
  | succ k ih =>
    rw [bestS_succ]
    by_cases e : i = k
    · subst e; rw [if_pos hs]; omega
    · have := ih (by omega)
      split <;> omega
theorem bestS_hit (c : List Int) (s : List Bool) (k : Nat) : bestS c s k = -1 ∨ ∃ i, i < k ∧ s[i]?.getD false = true ∧ c[i]?.getD 0 = bestS c s k := by
  induction k with
  | zero => exact .inl rfl
  | succ k ih =>
    rw [bestS_succ]
    by_cases hs : s[k]?.getD false = true
    · rw [if_pos hs]
      rcases ih with ih | ⟨i, hi, h1, h2⟩
      · by_cases g : c[k]?.getD 0 ≤ -1
        · left; omega
        · right; exact ⟨k, by omega, hs, by omega⟩
      · by_cases g : c[k]?.getD 0 ≤ bestS c s k
        · right; exact ⟨i, by omega, h1, by omega⟩
        · right; exact ⟨k, by omega, hs, by omega⟩
    · rw [if_neg hs]
      rcases ih with ih | ⟨i, hi, h1, h2⟩
      · exact .inl ih
      · exact .inr ⟨i, by omega, h1, h2⟩
/-- Who has the greatest of some counts. -/
def mostL (c : List Int) (s : List Bool) : List Bool := (List.range c.length).map fun i => s[i]?.getD false && (c[i]?.getD 0 == bestS c s c.length)
theorem mostL_length (c : List Int) (s : List Bool) : (mostL c s).length = c.length := by simp [mostL]
theorem mostL_at {c : List Int} {s : List Bool} {i : Nat} (h : i < c.length) : (mostL c s)[i]?.getD false = true ↔ s[i]?.getD false = true ∧ c[i]?.getD 0 = bestS c s c.length := by
  simp [mostL, h]

/-- The first one of some in an order. -/
theorem pickL_spec {l : List Int} {L : List Bool} (h : ∃ z ∈ l, L[z.toNat]?.getD false = true) : pickL l L ∈ l ∧ L[(pickL l L).toNat]?.getD false = true ∧ ∀ u ∈ l, L[u.toNat]?.getD false = true → l.idxOf (pickL l L) ≤ l.idxOf u := by
  induction l with
  | nil => obtain ⟨z, hz, _⟩ := h; cases hz
  | cons a t ih =>
    unfold pickL
    by_cases ha : L[a.toNat]?.getD false = true
    · rw [if_pos ha]
      exact ⟨by simp, ha, fun u _ _ => by simp [List.idxOf_cons]⟩
    · rw [if_neg ha]
      obtain ⟨z, hz, hzL⟩ := h
      have hz' : z ∈ t := by
        rcases List.mem_cons.1 hz with e | e
        · subst e; exact absurd hzL ha
        · exact e
      obtain ⟨i1, i2, i3⟩ := ih ⟨z, hz', hzL⟩
      refine ⟨by simp [i1], i2, fun u hu huL => ?_⟩
      have hau : ¬ a = u := fun e => ha (by rw [e]; exact huL)
      have hap : ¬ a = pickL t L := fun e => ha (by rw [e]; exact i2)
      have hu' : u ∈ t := by
        rcases List.mem_cons.1 hu with e | e
        · exact absurd e.symm hau
        · exact e
      have := i3 u hu' huL
      rw [List.idxOf_cons, List.idxOf_cons]
      simp only [beq_eq_false_iff_ne.2 hau, beq_eq_false_iff_ne.2 hap, cond_false]
      omega

/-- **w has the greatest of some counts**, and comes first in the lots among those who have as many. -/
def IsWin (c : List Int) (s : List Bool) (lots : List Int) (w : Int) : Prop :=
  w ∈ lots ∧ s[w.toNat]?.getD false = true ∧ ∀ i ∈ lots, s[i.toNat]?.getD false = true → c[i.toNat]?.getD 0 < c[w.toNat]?.getD 0 ∨ (c[i.toNat]?.getD 0 = c[w.toNat]?.getD 0 ∧ lots.idxOf w ≤ lots.idxOf i)
theorem idxOf_inj {l : List Int} {a b : Int} (ha : a ∈ l) (h : l.idxOf a = l.idxOf b) : a = b := by
  induction l with
  | nil => cases ha
  | cons z t ih =>
    rw [List.idxOf_cons, List.idxOf_cons] at h
    by_cases h1 : z = a
    · by_cases h2 : z = b
      · exact h1.symm.trans h2
      · simp only [beq_iff_eq.2 h1, beq_eq_false_iff_ne.2 h2, cond_true, cond_false] at h; omega
    · by_cases h2 : z = b
      · simp only [beq_eq_false_iff_ne.2 h1, beq_iff_eq.2 h2, cond_true, cond_false] at h; omega
      · simp only [beq_eq_false_iff_ne.2 h1, beq_eq_false_iff_ne.2 h2, cond_false] at h
        refine ih ?_ (by omega)
        rcases List.mem_cons.1 ha with e | e
        · exact absurd e.symm h1
        · exact e
/-- There is one alone. -/
theorem win_one {c : List Int} {s : List Bool} {lots : List Int} {v w : Int} (hv : IsWin c s lots v) (hw : IsWin c s lots w) : v = w := by
  obtain ⟨v1, v2, v3⟩ := hv
  obtain ⟨w1, w2, w3⟩ := hw
  have a := v3 w w1 w2
  have b := w3 v v1 v2
  exact idxOf_inj v1 (by omega)
theorem lots_mem {lots : List Int} (h : lotsB lots = true) {i : Nat} (hi : i < lots.length) : (i : Int) ∈ lots := by
  have hm := vB_mem h
  have hd := vB_nodup h
  by_cases e : (i : Int) ∈ lots
  · exact e
  · have hnd : ((i : Int) :: lots).Nodup := List.nodup_cons.2 ⟨e, hd⟩
    have := few_of lots.length ((i : Int) :: lots) hnd (fun z hz => by
      rcases List.mem_cons.1 hz with g | g
      · subst g; omega
      · exact hm.2.2 z g)
    simp at this
    omega
/-- **The pick is the one.** -/
theorem win_pick {c : List Int} {s : List Bool} {lots : List Int} (hl : lotsB lots = true) (hc : c.length = lots.length) (h0 : ∀ i, i < c.length → 0 ≤ c[i]?.getD 0) (hs : ∃ i, i < c.length ∧ s[i]?.getD false = true) : IsWin c s lots (pickL lots (mostL c s)) := by
  have hm := vB_mem hl
  have hN : ∀ z ∈ lots, z.toNat < c.length := fun z hz => by have := hm.2.2 z hz; omega
  obtain ⟨j, hj, hsj⟩ := hs
  have hb := bestS_hit c s c.length
  have hge := bestS_ge (c := c) hj hsj
  have h0j := h0 j hj
  rcases hb with hb | ⟨i, hi, h1, h2⟩
  · omega
  · obtain ⟨p1, p2, p3⟩ := pickL_spec (l := lots) (L := mostL c s) ⟨(i : Int), lots_mem hl (by omega), by rw [Int.toNat_natCast, mostL_at hi]; exact ⟨h1, h2⟩⟩
    have hp := (mostL_at (hN _ p1)).1 p2
    refine ⟨p1, hp.1, fun u hu hsu => ?_⟩
    have hg := bestS_ge (c := c) (hN u hu) hsu
    by_cases e : c[u.toNat]?.getD 0 = bestS c s c.length
    · exact .inr ⟨by omega, p3 u hu ((mostL_at (hN u hu)).2 ⟨hsu, e⟩)⟩
    · exact .inl (by omega)

/-- x comes before y. -/
def befL : List Int → Int → Int → Bool
  | [], _, _ => false
  | z :: t, x, y => if z = x ∨ z = y then decide (z = x) && decide (x ≠ y) else befL t x y
theorem befL_iff {l : List Int} {x y : Int} (hx : x ∈ l) : befL l x y = true ↔ l.idxOf x < l.idxOf y := by
  induction l with
  | nil => cases hx
  | cons z t ih =>
    unfold befL
    rw [List.idxOf_cons, List.idxOf_cons]
    by_cases h1 : z = x
    · by_cases h2 : z = y
      · simp [h1, h1.symm.trans h2]
      · rw [if_pos (.inl h1)]
        simp only [beq_iff_eq.2 h1, beq_eq_false_iff_ne.2 h2, cond_true, cond_false]
        simp [h1, show ¬ x = y from fun e => h2 (h1.trans e)]
    · have hx' : x ∈ t := by
        rcases List.mem_cons.1 hx with e | e
        · exact absurd e.symm h1
        · exact e
      by_cases h2 : z = y
      · rw [if_pos (.inr h2)]
        simp only [beq_eq_false_iff_ne.2 h1, beq_iff_eq.2 h2, cond_true, cond_false]
        simp [h1]
      · rw [if_neg (by rintro (e | e); exact h1 e; exact h2 e), ih hx']
        simp only [beq_eq_false_iff_ne.2 h1, beq_eq_false_iff_ne.2 h2, cond_false]
        omega
/-- **Nobody has more than the winner**; who has as many doesn't come before. -/
theorem win_most {c : List Int} {s : List Bool} {lots : List Int} {w : Int} (hw : IsWin c s lots w) {k : Int} (hk : k ∈ lots) (hs : s[k.toNat]?.getD false = true) : c[k.toNat]?.getD 0 ≤ c[w.toNat]?.getD 0 ∧ (c[k.toNat]?.getD 0 = c[w.toNat]?.getD 0 → befL lots k w = false) := by
  have := hw.2.2 k hk hs
  refine ⟨by omega, fun e => ?_⟩
  cases hb : befL lots k w
  · rfl
  · have := (befL_iff hk).1 hb
    omega

/-! ### Two candidates exchanged. -/
theorem swapC_inj {x y a b : Int} (h : swapC x y a = swapC x y b) : a = b := by
  have := congrArg (swapC x y) h
  rwa [swapC_twice, swapC_twice] at this
theorem idxOf_turn (x y : Int) (l : List Int) (z : Int) : (turnB x y l).idxOf (swapC x y z) = l.idxOf z := by
  unfold turnB
  induction l with
  | nil => rfl
  | cons a t ih =>
    rw [List.map_cons, List.idxOf_cons, List.idxOf_cons, ih]
    by_cases e : a = z
    · simp [e]
    · have : ¬ swapC x y a = swapC x y z := fun g => e (swapC_inj g)
      simp only [beq_eq_false_iff_ne.2 e, beq_eq_false_iff_ne.2 this]
/-- **Candidates are treated alike.** -/
theorem win_turn {c c' : List Int} {s s' : List Bool} {lots : List Int} {w x y : Int} (hw : IsWin c s lots w) (hc : ∀ z ∈ lots, c'[(swapC x y z).toNat]?.getD 0 = c[z.toNat]?.getD 0) (hs : ∀ z ∈ lots, s'[(swapC x y z).toNat]?.getD false = s[z.toNat]?.getD false) : IsWin c' s' (turnB x y lots) (swapC x y w) := by
  obtain ⟨w1, w2, w3⟩ := hw
  refine ⟨List.mem_map.2 ⟨w, w1, rfl⟩, by rw [hs w w1]; exact w2, fun i hi hsi => ?_⟩
  obtain ⟨z, hz, rfl⟩ := List.mem_map.1 hi
  rw [hc z hz, hc w w1, idxOf_turn, idxOf_turn]
  exact w3 z hz (by rw [← hs z hz]; exact hsi)

end Go.Proofs.Ytafnmongglhlaaa

namespace Go.Proofs.Ytafnmongglhlaaa

/-- A count and the part of one more pile. -/
def tfAdd (a w : Fr) (m : Int) : Fr := ofF (sumF a (ofF (w.1 * m) w.2)).1 (sumF a (ofF (w.1 * m) w.2)).2
/-- Whom pile i counts for. -/
def tfFst (ps : List Pl) (gs : List Bool) (i : Nat) : Int := firstL (parseL (tAt ps i)) gs
def tfW (ws : List Fr) (i : Nat) : Fr := ws[i]?.getD (0, 1)
/-- The count of candidate k over the first i piles. -/
def tfCnt (ps : List Pl) (ws : List Fr) (gs : List Bool) (k : Nat) : Nat → Fr
  | 0 => (0, 1)
  | i + 1 => if tfFst ps gs i = (k : Int) then tfAdd (tfCnt ps ws gs k i) (tfW ws i) (mAt ps i) else tfCnt ps ws gs k i
theorem tfCnt_hit {ps : List Pl} {ws : List Fr} {gs : List Bool} {k i : Nat} (h : tfFst ps gs i = (k : Int)) : tfCnt ps ws gs k (i + 1) = tfAdd (tfCnt ps ws gs k i) (tfW ws i) (mAt ps i) := by rw [tfCnt, if_pos h]
theorem tfCnt_miss {ps : List Pl} {ws : List Fr} {gs : List Bool} {k i : Nat} (h : tfFst ps gs i ≠ (k : Int)) : tfCnt ps ws gs k (i + 1) = tfCnt ps ws gs k i := by rw [tfCnt, if_neg h]
/-- The counts of all candidates over the first i piles. -/
def tfCnts (ps : List Pl) (ws : List Fr) (gs : List Bool) (i : Nat) : List Fr := (List.range gs.length).map fun k => tfCnt ps ws gs k i
theorem tfCnts_length (ps : List Pl) (ws : List Fr) (gs : List Bool) (i : Nat) : (tfCnts ps ws gs i).length = gs.length := by simp [tfCnts]
theorem tfCnts_at {ps : List Pl} {ws : List Fr} {gs : List Bool} {i k : Nat} (h : k < gs.length) : (tfCnts ps ws gs i)[k]? = some (tfCnt ps ws gs k i) := by simp [tfCnts, h]
theorem tfCnts_zero (ps : List Pl) (ws : List Fr) (gs : List Bool) : tfCnts ps ws gs 0 = List.replicate gs.length (0, 1) := by
  refine List.ext_getElem (by simp [tfCnts]) (fun i h1 h2 => ?_)
  simp [tfCnts, tfCnt]
theorem tfCnts_hit {ps : List Pl} {ws : List Fr} {gs : List Bool} {k i : Nat} (_ : k < gs.length) (h : tfFst ps gs i = (k : Int)) : tfCnts ps ws gs (i + 1) = (tfCnts ps ws gs i).set k (tfAdd (tfCnt ps ws gs k i) (tfW ws i) (mAt ps i)) := by
  refine List.ext_getElem (by simp [tfCnts]) (fun j h1 h2 => ?_)
  rw [List.getElem_set]
  simp only [tfCnts, List.getElem_map, List.getElem_range]
  by_cases e : k = j
  · subst e; rw [if_pos rfl, tfCnt_hit h]
  · rw [if_neg e, tfCnt_miss (by omega)]
theorem tfCnts_miss {ps : List Pl} {ws : List Fr} {gs : List Bool} {i : Nat} (h : tfFst ps gs i < 0) : tfCnts ps ws gs (i + 1) = tfCnts ps ws gs i := by
  refine List.ext_getElem (by simp [tfCnts]) (fun j h1 h2 => ?_)
  simp only [tfCnts, List.getElem_map, List.getElem_range]
  rw [tfCnt_miss (by omega)]

/-- Who has gone. -/
def tfG (gs : List Bool) : Int → Bool := fun z => decide (0 ≤ z) && gs[z.toNat]?.getD false
theorem tfG_at (gs : List Bool) (k : Nat) : tfG gs (k : Int) = gs[k]?.getD false := by simp [tfG]
theorem tfG_set {gs : List Bool} {w : Nat} (h : w < gs.length) : tfG (gs.set w true) = goneP (tfG gs) (w : Int) := by
  funext z
  unfold tfG goneP
  by_cases hz : 0 ≤ z
  · obtain ⟨k, rfl⟩ := Int.eq_ofNat_of_zero_le hz
    simp only [Int.toNat_natCast]
    rw [set_at _ _ _ h]
    by_cases e : k = w
    · subst e; simp
    · rw [if_neg e, decide_eq_false (show ¬ ((k : Int) = (w : Int)) by omega)]; simp
  · rw [decide_eq_false hz, decide_eq_false (show ¬ (z = (w : Int)) by omega)]; simp [hz]
theorem fst_same {gs : List Bool} : ∀ {b : List Int}, (∀ z ∈ b, 0 ≤ z) → fstC b (tfG gs) = firstL b gs
  | [], _ => rfl
  | z :: t, h => by
    have hz := h z (by simp)
    obtain ⟨k, rfl⟩ := Int.eq_ofNat_of_zero_le hz
    unfold fstC firstL
    rw [tfG_at, Int.toNat_natCast, fst_same (fun u hu => h u (by simp [hu]))]
theorem tfFst_same (ps : List Pl) (gs : List Bool) (i : Nat) : fstC (parseL (tAt ps i)) (tfG gs) = tfFst ps gs i := fst_same (parse_pos _)

/-- The count of a candidate; who is taken of two. -/
def tfC (cs : List Fr) (z : Int) : Fr := cs[z.toNat]?.getD (0, 1)
def tfAhead (least : Bool) (cs : List Fr) (b k : Int) : Bool := if least = true then !lessF (tfC cs b) (tfC cs k) else lessF (tfC cs b) (tfC cs k)
def tfPick (least : Bool) (cs : List Fr) (b k : Int) : Int := if tfAhead least cs b k = true then k else b
theorem tfPick_self (least : Bool) (cs : List Fr) (b : Int) : tfPick least cs b b = b := by unfold tfPick; split <;> rfl
def tfFold (least : Bool) (cs : List Fr) : Int → List Int → Int
  | b, [] => b
  | b, k :: t => tfFold least cs (tfPick least cs b k) t
/-- As the model goes over all lots. -/
def tfOver (least : Bool) (cs : List Fr) (gs : List Bool) : Int → List Int → Int
  | b, [] => b
  | b, k :: t => tfOver least cs gs (if gs[k.toNat]?.getD false = true then b else if b < 0 then k else tfPick least cs b k) t
theorem tfPick_low {least : Bool} {cs : List Fr} {b k : Int} (hb : 0 ≤ b) (hk : 0 ≤ k) : 0 ≤ tfPick least cs b k := by unfold tfPick; split <;> assumption
theorem tfPick_mem (least : Bool) (cs : List Fr) (b k : Int) : tfPick least cs b k = b ∨ tfPick least cs b k = k := by unfold tfPick; split <;> simp
theorem tfG_nn {gs : List Bool} {z : Int} (h : 0 ≤ z) : tfG gs z = gs[z.toNat]?.getD false := by unfold tfG; rw [decide_eq_true h]; rfl
theorem there_cons (k : Int) (t : List Int) (g : Int → Bool) : thereL (k :: t) g = if g k = true then thereL t g else k :: thereL t g := by
  unfold thereL
  rw [List.filter_cons]
  by_cases h : g k = true
  · rw [if_pos h, if_neg (by simp [h])]
  · rw [if_neg h, if_pos (by simpa using h)]
theorem tfOver_some {least : Bool} {cs : List Fr} {gs : List Bool} : ∀ (l : List Int) (b : Int), 0 ≤ b → (∀ k ∈ l, 0 ≤ k) → tfOver least cs gs b l = tfFold least cs b (thereL l (tfG gs))
  | [], _, _, _ => rfl
  | k :: t, b, hb, h => by
    have hk := h k (by simp)
    have ih := fun b hb => tfOver_some (least := least) (cs := cs) (gs := gs) t b hb (fun u hu => h u (by simp [hu]))
    rw [there_cons, tfG_nn hk]
    unfold tfOver
    by_cases e : gs[k.toNat]?.getD false = true
    · rw [if_pos e, if_pos e]; exact ih b hb
    · rw [if_neg e, if_neg e, if_neg (by omega), ih _ (tfPick_low hb hk)]; rfl
/-- Who is taken: of all who are there. -/
def tfBest (least : Bool) (cs : List Fr) (gs : List Bool) (lots : List Int) : Int := tfFold least cs ((thereL lots (tfG gs))[0]?.getD (-1)) ((thereL lots (tfG gs)).drop 1)
theorem tfOver_start {least : Bool} {cs : List Fr} {gs : List Bool} : ∀ (l : List Int), (∀ k ∈ l, 0 ≤ k) → tfOver least cs gs (-1) l = tfBest least cs gs l
  | [], _ => rfl
  | k :: t, h => by
    have hk := h k (by simp)
    have ih := tfOver_start (least := least) (cs := cs) (gs := gs) t (fun u hu => h u (by simp [hu]))
    unfold tfOver tfBest
    rw [there_cons, tfG_nn hk]
    by_cases e : gs[k.toNat]?.getD false = true
    · rw [if_pos e, if_pos e, ih]; rfl
    · rw [if_neg e, if_neg e, if_pos (by omega), tfOver_some t k hk (fun u hu => h u (by simp [hu]))]; rfl
/-- As the program goes over all who are there. -/
theorem tfFold_all {least : Bool} {cs : List Fr} {l : List Int} (h : l ≠ []) : tfFold least cs (l[0]?.getD (-1)) l = tfFold least cs (l[0]?.getD (-1)) (l.drop 1) := by
  match l, h with
  | a :: t, _ =>
    show tfFold least cs a (a :: t) = tfFold least cs a t
    conv => lhs; unfold tfFold
    rw [tfPick_self]
theorem tfFold_mem {least : Bool} {cs : List Fr} : ∀ (l : List Int) (b : Int), tfFold least cs b l = b ∨ tfFold least cs b l ∈ l
  | [], b => .inl rfl
  | k :: t, b => by
    unfold tfFold
    rcases tfFold_mem t (tfPick least cs b k) with e | e
    · rw [e]
      rcases tfPick_mem least cs b k with f | f
      · exact .inl f
      · exact .inr (by rw [f]; simp)
    · exact .inr (by simp [e])
theorem tfFold_app {least : Bool} {cs : List Fr} : ∀ (l m : List Int) (b : Int), tfFold least cs b (l ++ m) = tfFold least cs (tfFold least cs b l) m
  | [], _, _ => rfl
  | k :: t, m, b => by show tfFold least cs _ (t ++ m) = _; rw [tfFold_app t m]; rfl
theorem tfFold_snoc {least : Bool} {cs : List Fr} (l : List Int) (k b : Int) : tfFold least cs b (l ++ [k]) = tfPick least cs (tfFold least cs b l) k := tfFold_app l [k] b
theorem tfOver_app {least : Bool} {cs : List Fr} {gs : List Bool} : ∀ (l m : List Int) (b : Int), tfOver least cs gs b (l ++ m) = tfOver least cs gs (tfOver least cs gs b l) m
  | [], _, _ => rfl
  | k :: t, m, b => by show tfOver least cs gs _ (t ++ m) = _; rw [tfOver_app t m]; rfl
theorem tfBest_mem {least : Bool} {cs : List Fr} {gs : List Bool} {lots : List Int} (h : thereL lots (tfG gs) ≠ []) : tfBest least cs gs lots ∈ thereL lots (tfG gs) := by
  unfold tfBest
  match hl : thereL lots (tfG gs), h with
  | a :: t, _ =>
    rcases tfFold_mem (least := least) (cs := cs) ((a :: t).drop 1) ((a :: t)[0]?.getD (-1)) with e | e
    · rw [e]; simp
    · simp at e ⊢; exact .inr e

/-- What happens: 1 a seat by the quota, 2 leaves, 3 a seat that is left; and to whom. -/
def tfKind (q : Int) (lots : List Int) (cs : List Fr) (gs : List Bool) (s : Nat) : Nat := if lessF (tfC cs (tfBest false cs gs lots)) (q, 1) = true then (if (thereL lots (tfG gs)).length ≤ s then 3 else 2) else 1
def tfWho (q : Int) (lots : List Int) (cs : List Fr) (gs : List Bool) (s : Nat) : Int := if tfKind q lots cs gs s = 2 then tfBest true cs gs lots else tfBest false cs gs lots
theorem tfKind_cases (q : Int) (lots : List Int) (cs : List Fr) (gs : List Bool) (s : Nat) : tfKind q lots cs gs s = 1 ∨ tfKind q lots cs gs s = 2 ∨ tfKind q lots cs gs s = 3 := by
  unfold tfKind; split
  · split <;> simp
  · simp
/-- The weight of one pile behind a seat by the quota; of all. -/
def tfCut (w c : Fr) (q : Int) : Fr := ofF (w.1 * (c.1 - q * c.2)) (w.2 * c.1)
def tfWgh (ps : List Pl) (ws : List Fr) (gs : List Bool) (who : Int) (c : Fr) (q : Int) (i : Nat) : Fr := if tfFst ps gs i = who then tfCut (tfW ws i) c q else tfW ws i
def tfWeigh (ps : List Pl) (ws : List Fr) (gs : List Bool) (who : Int) (c : Fr) (q : Int) : List Fr := (List.range ps.length).map (tfWgh ps ws gs who c q)
theorem tfWeigh_length (ps : List Pl) (ws : List Fr) (gs : List Bool) (who : Int) (c : Fr) (q : Int) : (tfWeigh ps ws gs who c q).length = ps.length := by simp [tfWeigh]
theorem tfWeigh_at {ps : List Pl} {ws : List Fr} {gs : List Bool} {who : Int} {c : Fr} {q : Int} {i : Nat} (h : i < ps.length) : tfW (tfWeigh ps ws gs who c q) i = tfWgh ps ws gs who c q i := by simp [tfWeigh, tfW, h]
/-- A state: who has gone, the weights, the seats that are left. -/
structure TfS where
  gs : List Bool
  ws : List Fr
  s : Nat
abbrev TfStp := List Fr × Int × Nat
section
variable (ps : List Pl) (lots : List Int) (q : Int)
def TfS.cs (S : TfS) : List Fr := tfCnts ps S.ws S.gs ps.length
def TfS.kind (S : TfS) : Nat := tfKind q lots (S.cs ps) S.gs S.s
def TfS.who (S : TfS) : Int := tfWho q lots (S.cs ps) S.gs S.s
def tfStep (S : TfS) : TfStp := (S.cs ps, S.who ps lots q, S.kind ps lots q)
def tfNext (S : TfS) : TfS :=
  ⟨S.gs.set (S.who ps lots q).toNat true, if S.kind ps lots q = 1 then tfWeigh ps S.ws S.gs (S.who ps lots q) (tfC (S.cs ps) (S.who ps lots q)) q else S.ws, if S.kind ps lots q = 2 then S.s else S.s - 1⟩
def tfStart (n s : Nat) : TfS := ⟨List.replicate n false, List.replicate ps.length (1, 1), s⟩
def tfRun : Nat → TfS → List TfStp
  | 0, _ => []
  | f + 1, S => if S.s = 0 then [] else tfStep ps lots q S :: tfRun f (tfNext ps lots q S)
def tfAt (S : TfS) : Nat → TfS
  | 0 => S
  | j + 1 => tfAt (tfNext ps lots q S) j
end
theorem tfRun_zero (ps : List Pl) (lots : List Int) (q : Int) (f : Nat) {S : TfS} (h : S.s = 0) : tfRun ps lots q f S = [] := by
  cases f with
  | zero => rfl
  | succ f => rw [tfRun, if_pos h]
theorem tfRun_step (ps : List Pl) (lots : List Int) (q : Int) (f : Nat) {S : TfS} (h : S.s ≠ 0) : tfRun ps lots q (f + 1) S = tfStep ps lots q S :: tfRun ps lots q f (tfNext ps lots q S) := by rw [tfRun, if_neg h]

end Go.Proofs.Ytafnmongglhlaaa
