/-
  The greatest of some counts, of several ones the one who comes first in the lots: who it is, that there is one alone, and with two candidates exchanged. Of no memory.
  The plurality, as lists: the winner, a ballot more, two candidates exchanged, the margin. Of no memory.
  Runoffs, as lists: who has the least count, who has left before each round, when a runoff ends, who wins. Of no memory.
-/
import Derived.Test.YtojfpnjnbpeniaaGrp2
namespace Go.Proofs.Ytojfpnjnbpeniaa

/-- The greatest of the first k counts of some, or -1. -/
def bestS (c : List Int) (s : List Bool) (k : Nat) : Int := (List.range k).foldl (fun (b : Int) (i : Nat) => if s[i]?.getD false = true then max b (c[i]?.getD 0) else b) (-1)
theorem bestS_zero (c : List Int) (s : List Bool) : bestS c s 0 = -1 := rfl
theorem bestS_succ (c : List Int) (s : List Bool) (k : Nat) : bestS c s (k + 1) = if s[k]?.getD false = true then max (bestS c s k) (c[k]?.getD 0) else bestS c s k := by
  simp [bestS, List.range_succ]
theorem bestS_ge {c : List Int} {s : List Bool} {k i : Nat} (h : i < k) (hs : s[i]?.getD false = true) : c[i]?.getD 0 ≤ bestS c s k := by
  induction k with
  | zero => omega
  | succ k ih =>
    rw [bestS_succ]
    by_cases e : i = k
    · subst e; rw [if_pos hs]; omega
    · have := ih (by omega)
      split <;> omega
theorem bestS_hit (c : List Int) (s : List Bool) (k : Nat) : bestS c s k = -1 ∨ ∃ i, i < k ∧ s[i]?.getD false = true ∧ c[i]?.getD 0 = bestS c s k := by
  induction k with
  | zero => exact .inl rfl
  | succ k ih =>
    rw [bestS_succ]
    by_cases hs : s[k]?.getD false = true
    · rw [if_pos hs]
      rcases ih with ih | ⟨i, hi, h1, h2⟩
      · by_cases g : c[k]?.getD 0 ≤ -1
        · left; omega
        · right; exact ⟨k, by omega, hs, by omega⟩
      · by_cases g : c[k]?.getD 0 ≤ bestS c s k
        · right; exact ⟨i, by omega, h1, by omega⟩
        · right; exact ⟨k, by omega, hs, by omega⟩
    · rw [if_neg hs]
      rcases ih with ih | ⟨i, hi, h1, h2⟩
      · exact .inl ih
      · exact .inr ⟨i, by omega, h1, h2⟩
/-- Who has the greatest of some counts. -/
def mostL (c : List Int) (s : List Bool) : List Bool := (List.range c.length).map fun i => s[i]?.getD false && (c[i]?.getD 0 == bestS c s c.length)
theorem mostL_length (c : List Int) (s : List Bool) : (mostL c s).length = c.length := by simp [mostL]
theorem mostL_at {c : List Int} {s : List Bool} {i : Nat} (h : i < c.length) : (mostL c s)[i]?.getD false = true ↔ s[i]?.getD false = true ∧ c[i]?.getD 0 = bestS c s c.length := by
  simp [mostL, h]

/-- The first one of some in an order. -/
theorem pickL_spec {l : List Int} {L : List Bool} (h : ∃ z ∈ l, L[z.toNat]?.getD false = true) : pickL l L ∈ l ∧ L[(pickL l L).toNat]?.getD false = true ∧ ∀ u ∈ l, L[u.toNat]?.getD false = true → l.idxOf (pickL l L) ≤ l.idxOf u := by
  induction l with
  | nil => obtain ⟨z, hz, _⟩ := h; cases hz
  | cons a t ih =>
    unfold pickL
    by_cases ha : L[a.toNat]?.getD false = true
    · rw [if_pos ha]
      exact ⟨by simp, ha, fun u _ _ => by simp [List.idxOf_cons]⟩
    · rw [if_neg ha]
      obtain ⟨z, hz, hzL⟩ := h
      have hz' : z ∈ t := by
        rcases List.mem_cons.1 hz with e | e
        · subst e; exact absurd hzL ha
        · exact e
      obtain ⟨i1, i2, i3⟩ := ih ⟨z, hz', hzL⟩
      refine ⟨by simp [i1], i2, fun u hu huL => ?_⟩
      have hau : ¬ a = u := fun e => ha (by rw [e]; exact huL)
      have hap : ¬ a = pickL t L := fun e => ha (by rw [e]; exact i2)
      have hu' : u ∈ t := by
        rcases List.mem_cons.1 hu with e | e
        · exact absurd e.symm hau
        · exact e
      have := i3 u hu' huL
      rw [List.idxOf_cons, List.idxOf_cons]
      simp only [beq_eq_false_iff_ne.2 hau, beq_eq_false_iff_ne.2 hap, cond_false]
      omega

/-- **w has the greatest of some counts**, and comes first in the lots among those who have as many. -/
def IsWin (c : List Int) (s : List Bool) (lots : List Int) (w : Int) : Prop :=
  w ∈ lots ∧ s[w.toNat]?.getD false = true ∧ ∀ i ∈ lots, s[i.toNat]?.getD false = true → c[i.toNat]?.getD 0 < c[w.toNat]?.getD 0 ∨ (c[i.toNat]?.getD 0 = c[w.toNat]?.getD 0 ∧ lots.idxOf w ≤ lots.idxOf i)
theorem idxOf_inj {l : List Int} {a b : Int} (ha : a ∈ l) (h : l.idxOf a = l.idxOf b) : a = b := by
  induction l with
  | nil => cases ha
  | cons z t ih =>
    rw [List.idxOf_cons, List.idxOf_cons] at h
    by_cases h1 : z = a
    · by_cases h2 : z = b
      · exact h1.symm.trans h2
      · simp only [beq_iff_eq.2 h1, beq_eq_false_iff_ne.2 h2, cond_true, cond_false] at h; omega
    · by_cases h2 : z = b
      · simp only [beq_eq_false_iff_ne.2 h1, beq_iff_eq.2 h2, cond_true, cond_false] at h; omega
      · simp only [beq_eq_false_iff_ne.2 h1, beq_eq_false_iff_ne.2 h2, cond_false] at h
        refine ih ?_ (by omega)
        rcases List.mem_cons.1 ha with e | e
        · exact absurd e.symm h1
        · exact e
/-- There is one alone. -/
theorem win_one {c : List Int} {s : List Bool} {lots : List Int} {v w : Int} (hv : IsWin c s lots v) (hw : IsWin c s lots w) : v = w := by
  obtain ⟨v1, v2, v3⟩ := hv
  obtain ⟨w1, w2, w3⟩ := hw
  have a := v3 w w1 w2
  have b := w3 v v1 v2
  exact idxOf_inj v1 (by omega)
theorem lots_mem {lots : List Int} (h : lotsB lots = true) {i : Nat} (hi : i < lots.length) : (i : Int) ∈ lots := by
  have hm := vB_mem h
  have hd := vB_nodup h
  by_cases e : (i : Int) ∈ lots
  · exact e
  · have hnd : ((i : Int) :: lots).Nodup := List.nodup_cons.2 ⟨e, hd⟩
    have := few_of lots.length ((i : Int) :: lots) hnd (fun z hz => by
      rcases List.mem_cons.1 hz with g | g
      · subst g; omega
      · exact hm.2.2 z g)
    simp at this
    omega
/-- **The pick is the one.** -/
theorem win_pick {c : List Int} {s : List Bool} {lots : List Int} (hl : lotsB lots = true) (hc : c.length = lots.length) (h0 : ∀ i, i < c.length → 0 ≤ c[i]?.getD 0) (hs : ∃ i, i < c.length ∧ s[i]?.getD false = true) : IsWin c s lots (pickL lots (mostL c s)) := by
  have hm := vB_mem hl
  have hN : ∀ z ∈ lots, z.toNat < c.length := fun z hz => by have := hm.2.2 z hz; omega
  obtain ⟨j, hj, hsj⟩ := hs
  have hb := bestS_hit c s c.length
  have hge := bestS_ge (c := c) hj hsj
  have h0j := h0 j hj
  rcases hb with hb | ⟨i, hi, h1, h2⟩
  · omega
  · obtain ⟨p1, p2, p3⟩ := pickL_spec (l := lots) (L := mostL c s) ⟨(i : Int), lots_mem hl (by omega), by rw [Int.toNat_natCast, mostL_at hi]; exact ⟨h1, h2⟩⟩
    have hp := (mostL_at (hN _ p1)).1 p2
    refine ⟨p1, hp.1, fun u hu hsu => ?_⟩
    have hg := bestS_ge (c := c) (hN u hu) hsu
    by_cases e : c[u.toNat]?.getD 0 = bestS c s c.length
    · exact .inr ⟨by omega, p3 u hu ((mostL_at (hN u hu)).2 ⟨hsu, e⟩)⟩
    · exact .inl (by omega)

/-- x comes before y. -/
def befL : List Int → Int → Int → Bool
  | [], _, _ => false
  | z :: t, x, y => if z = x ∨ z = y then decide (z = x) && decide (x ≠ y) else befL t x y
theorem befL_iff {l : List Int} {x y : Int} (hx : x ∈ l) : befL l x y = true ↔ l.idxOf x < l.idxOf y := by
  induction l with
  | nil => cases hx
  | cons z t ih =>
    unfold befL
    rw [List.idxOf_cons, List.idxOf_cons]
    by_cases h1 : z = x
    · by_cases h2 : z = y
      · simp [h1, h1.symm.trans h2]
      · rw [if_pos (.inl h1)]
        simp only [beq_iff_eq.2 h1, beq_eq_false_iff_ne.2 h2, cond_true, cond_false]
        simp [h1, show ¬ x = y from fun e => h2 (h1.trans e)]
    · have hx' : x ∈ t := by
        rcases List.mem_cons.1 hx with e | e
        · exact absurd e.symm h1
        · exact e
      by_cases h2 : z = y
      · rw [if_pos (.inr h2)]
        simp only [beq_eq_false_iff_ne.2 h1, beq_iff_eq.2 h2, cond_true, cond_false]
        simp [h1]
      · rw [if_neg (by rintro (e | e); exact h1 e; exact h2 e), ih hx']
        simp only [beq_eq_false_iff_ne.2 h1, beq_eq_false_iff_ne.2 h2, cond_false]
        omega
/-- **Nobody has more than the winner**; who has as many doesn't come before. -/
theorem win_most {c : List Int} {s : List Bool} {lots : List Int} {w : Int} (hw : IsWin c s lots w) {k : Int} (hk : k ∈ lots) (hs : s[k.toNat]?.getD false = true) : c[k.toNat]?.getD 0 ≤ c[w.toNat]?.getD 0 ∧ (c[k.toNat]?.getD 0 = c[w.toNat]?.getD 0 → befL lots k w = false) := by
  have := hw.2.2 k hk hs
  refine ⟨by omega, fun e => ?_⟩
  cases hb : befL lots k w
  · rfl
  · have := (befL_iff hk).1 hb
    omega

/-! ### Two candidates exchanged. -/
theorem swapC_inj {x y a b : Int} (h : swapC x y a = swapC x y b) : a = b := by
  have := congrArg (swapC x y) h
  rwa [swapC_twice, swapC_twice] at this
theorem idxOf_turn (x y : Int) (l : List Int) (z : Int) : (turnB x y l).idxOf (swapC x y z) = l.idxOf z := by
  unfold turnB
  induction l with
  | nil => rfl
  | cons a t ih =>
    rw [List.map_cons, List.idxOf_cons, List.idxOf_cons, ih]
    by_cases e : a = z
    · simp [e]
    · have : ¬ swapC x y a = swapC x y z := fun g => e (swapC_inj g)
      simp only [beq_eq_false_iff_ne.2 e, beq_eq_false_iff_ne.2 this]
/-- **Candidates are treated alike.** -/
theorem win_turn {c c' : List Int} {s s' : List Bool} {lots : List Int} {w x y : Int} (hw : IsWin c s lots w) (hc : ∀ z ∈ lots, c'[(swapC x y z).toNat]?.getD 0 = c[z.toNat]?.getD 0) (hs : ∀ z ∈ lots, s'[(swapC x y z).toNat]?.getD false = s[z.toNat]?.getD false) : IsWin c' s' (turnB x y lots) (swapC x y w) := by
  obtain ⟨w1, w2, w3⟩ := hw
  refine ⟨List.mem_map.2 ⟨w, w1, rfl⟩, by rw [hs w w1]; exact w2, fun i hi hsi => ?_⟩
  obtain ⟨z, hz, rfl⟩ := List.mem_map.1 hi
  rw [hc z hz, hc w w1, idxOf_turn, idxOf_turn]
  exact w3 z hz (by rw [← hs z hz]; exact hsi)

end Go.Proofs.Ytojfpnjnbpeniaa

namespace Go.Proofs.Ytojfpnjnbpeniaa

theorem parse_turn {x y : Int} (hx : 0 ≤ x ∧ x ≤ 4) (hy : 0 ≤ y ∧ y ≤ 4) {s : ByteArray} (h : validB (nums s) 5 = true) : parseL (turnT x y s) = turnB x y (parseL s) := by
  unfold turnT
  rw [parseL_ok h, txtB_parse (turnB_valid hx hy h)]
theorem firstL_turn {x y : Int} (hx : 0 ≤ x) (hy : 0 ≤ y) {zs : List Int} {L L' : List Bool} (h : ∀ z ∈ zs, L'[(swapC x y z).toNat]?.getD false = L[z.toNat]?.getD false) : firstL (turnB x y zs) L' = swapC x y (firstL zs L) := by
  unfold turnB
  induction zs with
  | nil =>
    have : swapC x y (-1) = -1 := by unfold swapC; rw [if_neg (by omega), if_neg (by omega)]
    rw [List.map_nil, firstL, firstL, this]
  | cons z t ih =>
    rw [List.map_cons, firstL, firstL, h z (by simp)]
    split
    · exact ih (fun u hu => h u (by simp [hu]))
    · rfl
theorem swapC_low {x y z : Int} (hx : 0 ≤ x) (hy : 0 ≤ y) (hz : 0 ≤ z) : 0 ≤ swapC x y z := by
  unfold swapC
  split
  · exact hy
  · split
    · exact hx
    · exact hz
theorem swapC_high {x y z n : Int} (hx : x < n) (hy : y < n) (hz : z < n) : swapC x y z < n := by
  unfold swapC
  split
  · exact hy
  · split
    · exact hx
    · exact hz
/-- The counts of turned piles are those of the other candidate. -/
theorem counts_turn {ps : List Pl} {L L' : List Bool} {x y : Int} (hx : 0 ≤ x ∧ x ≤ 4) (hy : 0 ≤ y ∧ y ≤ 4) (hv : ∀ p ∈ ps, validB (nums p.1) 5 = true) (hL : ∀ z : Int, 0 ≤ z → z ≤ 4 → L'[(swapC x y z).toNat]?.getD false = L[z.toNat]?.getD false) {k : Nat} (hk : k < L.length) (hk' : (swapC x y (k : Int)).toNat < L'.length) :
    (countsL (turnPs x y ps) L')[(swapC x y (k : Int)).toNat]?.getD 0 = (countsL ps L)[k]?.getD 0 := by
  rw [countsL_at _ _ hk', countsL_at _ _ hk, wsum_turn]
  refine wsum_congr (fun p hp => ?_)
  have h5 := hv p hp
  have hm := vB_mem h5
  have e1 : firstL (parseL (turnT x y p.1)) L' = swapC x y (firstL (parseL p.1) L) := by
    rw [parse_turn hx hy h5]
    refine firstL_turn hx.1 hy.1 (fun z hz => ?_)
    rw [parseL_ok h5] at hz
    have := hm.2.2 z hz
    exact hL z this.1 (by omega)
  have e2 := Int.toNat_of_nonneg (swapC_low hx.1 hy.1 (Int.natCast_nonneg k))
  unfold oneF
  rw [e1, e2]
  by_cases e : firstL (parseL p.1) L = (k : Int)
  · rw [if_pos e, if_pos (by rw [e])]
  · rw [if_neg e, if_neg (fun g => e (swapC_inj g))]

/-- Nobody has left. -/
def noneL (n : Nat) : List Bool := List.replicate n false
def allL (n : Nat) : List Bool := List.replicate n true
theorem noneL_at (n k : Nat) : (noneL n)[k]?.getD false = false := by
  unfold noneL; rw [List.getElem?_replicate]; split <;> rfl
theorem allL_at {n k : Nat} (h : k < n) : (allL n)[k]?.getD false = true := by
  unfold allL; rw [List.getElem?_replicate, if_pos h]; rfl
theorem noneL_length (n : Nat) : (noneL n).length = n := by simp [noneL]
def plurC (ps : List Pl) (n : Nat) : List Int := countsL ps (noneL n)
theorem plurC_length (ps : List Pl) (n : Nat) : (plurC ps n).length = n := by rw [plurC, countsL_length, noneL_length]
theorem plurC_low {ps : List Pl} (hp : ∀ p ∈ ps, 1 ≤ p.2) {n k : Nat} (hk : k < n) : 0 ≤ (plurC ps n)[k]?.getD 0 := counts_low (by rw [noneL_length]; exact hk) hp
/-- The winner. -/
def winL (ps : List Pl) (lots : List Int) : Int := pickL lots (mostL (plurC ps lots.length) (allL lots.length))
theorem win_is {ps : List Pl} {lots : List Int} (hl : lotsB lots = true) (hp : ∀ p ∈ ps, 1 ≤ p.2) : IsWin (plurC ps lots.length) (allL lots.length) lots (winL ps lots) := by
  have hn := lotsB_len hl
  refine win_pick hl (plurC_length _ _) (fun i hi => ?_) ⟨0, ?_, allL_at (by omega)⟩
  · rw [plurC_length] at hi
    exact plurC_low hp hi
  · rw [plurC_length]; omega
theorem winL_range {ps : List Pl} {lots : List Int} (hl : lotsB lots = true) (hp : ∀ p ∈ ps, 1 ≤ p.2) : 0 ≤ winL ps lots ∧ winL ps lots < (lots.length : Int) := (vB_mem hl).2.2 _ (win_is hl hp).1

/-- A ballot for one candidate alone. -/
theorem plurC_put {ps : List Pl} {w : Int} {n : Nat} (hw : 0 ≤ w ∧ w < 5) {i : Nat} (hi : i < n) : (plurC (putL ps (txtB [w]) 1) n)[i]?.getD 0 = (plurC ps n)[i]?.getD 0 + if w = (i : Int) then 1 else 0 := by
  unfold plurC
  rw [counts_put _ _ _ (by rw [noneL_length]; exact hi)]
  have hv : validB [w] 5 = true := vB_of (by omega) (by omega) (by simp) (fun z hz => by simp at hz; omega)
  have hf : firstL (parseL (txtB [w])) (noneL n) = w := by
    rw [txtB_parse hv, firstL, if_neg (by rw [noneL_at]; simp)]
  unfold oneF
  rw [hf, Int.mul_one]
/-- **A ballot for the winner helps.** -/
theorem plur_more {ps : List Pl} {lots : List Int} (hl : lotsB lots = true) (hp : ∀ p ∈ ps, 1 ≤ p.2) : winL (putL ps (txtB [winL ps lots]) 1) lots = winL ps lots := by
  have h0 := win_is hl hp
  have hr := winL_range hl hp
  have hn := lotsB_len hl
  have hm := (vB_mem hl).2.2
  generalize winL ps lots = w at h0 hr
  have h1 := win_is (ps := putL ps (txtB [w]) 1) hl (pos_put hp (by omega))
  refine win_one h1 ⟨h0.1, h0.2.1, fun i hi hs => ?_⟩
  have hi' := hm i hi
  have a := h0.2.2 i hi hs
  rw [plurC_put (by omega) (by omega), plurC_put (by omega) (by omega)]
  rw [if_pos (show w = (w.toNat : Int) by omega)]
  by_cases e : w = (i.toNat : Int)
  · have e2 : i = w := by omega
    subst e2
    exact .inr ⟨by rw [if_pos e], Nat.le_refl _⟩
  · rw [if_neg e]
    exact .inl (by omega)
/-- **Candidates are treated alike.** -/
theorem plur_turn {ps : List Pl} {lots : List Int} (hl : lotsB lots = true) (hps : pilesB ps = true) {x y : Int} (hx : 0 ≤ x ∧ x < (lots.length : Int)) (hy : 0 ≤ y ∧ y < (lots.length : Int)) : winL (turnPs x y ps) (turnB x y lots) = swapC x y (winL ps lots) := by
  have hn := lotsB_len hl
  have hm := (vB_mem hl).2.2
  have hpp := pilesB_pos hps
  have hlen : (turnB x y lots).length = lots.length := by simp [turnB]
  have hl' : lotsB (turnB x y lots) = true := by
    unfold lotsB
    refine vB_of (by omega) (by omega) ?_ (fun z hz => ?_)
    · unfold turnB List.Nodup
      rw [List.pairwise_map]
      exact List.Pairwise.imp (fun {a b} hab e => hab (swapC_inj e)) (vB_nodup hl)
    · obtain ⟨u, hu, rfl⟩ := List.mem_map.1 hz
      have := hm u hu
      rw [hlen]
      exact ⟨swapC_low hx.1 hy.1 this.1, swapC_high hx.2 hy.2 this.2⟩
  have h1 := win_is hl' (ps := turnPs x y ps) (turnPs_pos hpp.2.1)
  rw [hlen] at h1
  refine win_one h1 (win_turn (win_is hl hpp.2.1) (fun z hz => ?_) (fun z hz => ?_))
  · have hz' := hm z hz
    have hz2 := swapC_high hx.2 hy.2 hz'.2
    have hz3 := swapC_low hx.1 hy.1 hz'.1
    have hc := counts_turn (L := noneL lots.length) (L' := noneL lots.length) (k := z.toNat) (show 0 ≤ x ∧ x ≤ 4 by omega) (show 0 ≤ y ∧ y ≤ 4 by omega) hpp.2.2.2.1 (fun u _ _ => by rw [noneL_at, noneL_at]) (by rw [noneL_length]; omega) (by rw [noneL_length, Int.toNat_of_nonneg hz'.1]; omega)
    rw [Int.toNat_of_nonneg hz'.1] at hc
    exact hc
  · have hz' := hm z hz
    have hz2 := swapC_high hx.2 hy.2 hz'.2
    have hz3 := swapC_low hx.1 hy.1 hz'.1
    rw [allL_at (by omega), allL_at (by omega)]

/-- The greatest count of the first k others, or 0. -/
def nextTo (c : List Int) (w : Int) (k : Nat) : Int := (List.range k).foldl (fun (b : Int) (i : Nat) => if (i : Int) ≠ w then max b (c[i]?.getD 0) else b) 0
theorem nextTo_zero (c : List Int) (w : Int) : nextTo c w 0 = 0 := rfl
theorem nextTo_succ (c : List Int) (w : Int) (k : Nat) : nextTo c w (k + 1) = if (k : Int) ≠ w then max (nextTo c w k) (c[k]?.getD 0) else nextTo c w k := by
  simp [nextTo, List.range_succ]
theorem nextTo_low (c : List Int) (w : Int) (k : Nat) : 0 ≤ nextTo c w k := by
  induction k with
  | zero => exact Int.le_refl _
  | succ k ih => rw [nextTo_succ]; split <;> omega
theorem nextTo_ge {c : List Int} {w : Int} {k i : Nat} (h : i < k) (hw : (i : Int) ≠ w) : c[i]?.getD 0 ≤ nextTo c w k := by
  induction k with
  | zero => omega
  | succ k ih =>
    rw [nextTo_succ]
    by_cases e : i = k
    · subst e; rw [if_pos hw]; omega
    · have := ih (by omega)
      split <;> omega
theorem nextTo_hit (c : List Int) (w : Int) (k : Nat) : nextTo c w k = 0 ∨ ∃ i, i < k ∧ (i : Int) ≠ w ∧ c[i]?.getD 0 = nextTo c w k := by
  induction k with
  | zero => exact .inl rfl
  | succ k ih =>
    rw [nextTo_succ]
    by_cases hw : (k : Int) ≠ w
    · rw [if_pos hw]
      rcases ih with ih | ⟨i, hi, h1, h2⟩
      · by_cases g : c[k]?.getD 0 ≤ 0
        · left; omega
        · right; exact ⟨k, by omega, hw, by omega⟩
      · by_cases g : c[k]?.getD 0 ≤ nextTo c w k
        · right; exact ⟨i, by omega, h1, by omega⟩
        · right; exact ⟨k, by omega, hw, by omega⟩
    · rw [if_neg hw]
      rcases ih with ih | ⟨i, hi, h1, h2⟩
      · exact .inl ih
      · exact .inr ⟨i, by omega, h1, h2⟩
/-- The margin. -/
def marginL (ps : List Pl) (lots : List Int) : Int := (plurC ps lots.length)[(winL ps lots).toNat]?.getD 0 - nextTo (plurC ps lots.length) (winL ps lots) lots.length
theorem nextTo_congr {c c' : List Int} {w : Int} (k : Nat) (h : ∀ i, i < k → (i : Int) ≠ w → c'[i]?.getD 0 = c[i]?.getD 0) : nextTo c' w k = nextTo c w k := by
  induction k with
  | zero => rfl
  | succ k ih =>
    rw [nextTo_succ, nextTo_succ, ih (fun i hi => h i (by omega))]
    by_cases e : (k : Int) ≠ w
    · rw [if_pos e, if_pos e, h k (by omega) e]
    · rw [if_neg e, if_neg e]
theorem margin_more {ps : List Pl} {lots : List Int} (hl : lotsB lots = true) (hp : ∀ p ∈ ps, 1 ≤ p.2) : marginL (putL ps (txtB [winL ps lots]) 1) lots = marginL ps lots + 1 := by
  have hr := winL_range hl hp
  have hn := lotsB_len hl
  unfold marginL
  rw [plur_more hl hp]
  generalize winL ps lots = w at hr
  rw [plurC_put (by omega) (by omega), if_pos (by omega), nextTo_congr (c := plurC ps lots.length) lots.length (fun i hi hw => by rw [plurC_put (by omega) hi, if_neg (by omega)]; omega)]
  omega
/-- **A margin is how many ballots are more.** -/
theorem margin_is {ps : List Pl} {lots : List Int} (hl : lotsB lots = true) (hp : ∀ p ∈ ps, 1 ≤ p.2) :
    0 ≤ marginL ps lots ∧ (∀ i : Nat, i < lots.length → (i : Int) ≠ winL ps lots → marginL ps lots ≤ (plurC ps lots.length)[(winL ps lots).toNat]?.getD 0 - (plurC ps lots.length)[i]?.getD 0) ∧ ((lots.length = 1 ∧ marginL ps lots = (plurC ps lots.length)[(winL ps lots).toNat]?.getD 0) ∨ ∃ i : Nat, i < lots.length ∧ (i : Int) ≠ winL ps lots ∧ (plurC ps lots.length)[(winL ps lots).toNat]?.getD 0 - (plurC ps lots.length)[i]?.getD 0 = marginL ps lots) := by
  have h0 := win_is hl hp
  have hr := winL_range hl hp
  have hn := lotsB_len hl
  unfold marginL
  generalize winL ps lots = w at h0 hr
  have hw0 := plurC_low hp (n := lots.length) (k := w.toNat) (by omega)
  have hh := nextTo_hit (plurC ps lots.length) w lots.length
  have hlow := nextTo_low (plurC ps lots.length) w lots.length
  refine ⟨?_, fun i hi hw => ?_, ?_⟩
  · rcases hh with hh | ⟨i, hi, h1, h2⟩
    · omega
    · have := h0.2.2 (i : Int) (lots_mem hl hi) (allL_at (by omega))
      rw [Int.toNat_natCast] at this
      omega
  · have := nextTo_ge (c := plurC ps lots.length) hi hw
    omega
  · rcases hh with hh | ⟨i, hi, h1, h2⟩
    · by_cases e : lots.length = 1
      · exact .inl ⟨e, by omega⟩
      · right
        obtain ⟨i, hi, hw⟩ : ∃ i : Nat, i < lots.length ∧ (i : Int) ≠ w := by
          by_cases e0 : w = 0
          · exact ⟨1, by omega, by omega⟩
          · exact ⟨0, by omega, by omega⟩
        have a := plurC_low hp (n := lots.length) (k := i) hi
        have b := nextTo_ge (c := plurC ps lots.length) hi hw
        exact ⟨i, hi, hw, by omega⟩
    · exact .inr ⟨i, hi, h1, by omega⟩

end Go.Proofs.Ytojfpnjnbpeniaa

namespace Go.Proofs.Ytojfpnjnbpeniaa

/-! ### Who leaves. -/
/-- The first of the first k who stay with the least count, or -1. -/
def lowTo (c : List Int) (L : List Bool) (k : Nat) : Int := (List.range k).foldl (fun (b : Int) (i : Nat) => if L[i]?.getD false = false ∧ (b < 0 ∨ c[i]?.getD 0 < c[b.toNat]?.getD 0) then (i : Int) else b) (-1)
theorem lowTo_zero (c : List Int) (L : List Bool) : lowTo c L 0 = -1 := rfl
theorem lowTo_succ (c : List Int) (L : List Bool) (k : Nat) : lowTo c L (k + 1) = if L[k]?.getD false = false ∧ (lowTo c L k < 0 ∨ c[k]?.getD 0 < c[(lowTo c L k).toNat]?.getD 0) then (k : Int) else lowTo c L k := by
  unfold lowTo
  rw [List.range_succ, List.foldl_append]
  rfl
theorem lowTo_spec (c : List Int) (L : List Bool) (k : Nat) : (lowTo c L k = -1 ∧ ∀ i, i < k → L[i]?.getD false = true) ∨ (0 ≤ lowTo c L k ∧ lowTo c L k < (k : Int) ∧ L[(lowTo c L k).toNat]?.getD false = false ∧ ∀ i, i < k → L[i]?.getD false = false → c[(lowTo c L k).toNat]?.getD 0 ≤ c[i]?.getD 0) := by
  induction k with
  | zero => exact .inl ⟨rfl, fun i hi => by omega⟩
  | succ k ih =>
    rw [lowTo_succ]
    by_cases h : L[k]?.getD false = false ∧ (lowTo c L k < 0 ∨ c[k]?.getD 0 < c[(lowTo c L k).toNat]?.getD 0)
    · rw [if_pos h]
      refine .inr ⟨by omega, by omega, by rw [Int.toNat_natCast]; exact h.1, fun i hi hL => ?_⟩
      rw [Int.toNat_natCast]
      by_cases e : i = k
      · subst e; exact Int.le_refl _
      · rcases ih with ⟨_, i2⟩ | ⟨i1, _, _, i4⟩
        · have := i2 i (by omega); rw [hL] at this; cases this
        · have := i4 i (by omega) hL
          omega
    · rw [if_neg h]
      rcases ih with ⟨i1, i2⟩ | ⟨i1, i2, i3, i4⟩
      · refine .inl ⟨i1, fun i hi => ?_⟩
        by_cases e : i = k
        · subst e
          cases hL : L[i]?.getD false
          · exact absurd ⟨hL, .inl (by omega)⟩ h
          · rfl
        · exact i2 i (by omega)
      · refine .inr ⟨i1, by omega, i3, fun i hi hL => ?_⟩
        by_cases e : i = k
        · subst e
          by_cases g : c[i]?.getD 0 < c[(lowTo c L i).toNat]?.getD 0
          · exact absurd ⟨hL, .inr g⟩ h
          · omega
        · exact i4 i (by omega) hL
/-- The last one in an order who stays and has as many as b, or b. -/
def lastW (c : List Int) (L : List Bool) : List Int → Int → Int
  | [], b => b
  | z :: t, b => lastW c L t (if L[z.toNat]?.getD false = false ∧ c[z.toNat]?.getD 0 = c[b.toNat]?.getD 0 then z else b)
theorem lastW_spec {c : List Int} {L : List Bool} {m : Int} : ∀ {l : List Int} {b : Int}, l.Nodup → c[b.toNat]?.getD 0 = m →
    (lastW c L l b = b ∧ ∀ z ∈ l, ¬ (L[z.toNat]?.getD false = false ∧ c[z.toNat]?.getD 0 = m)) ∨
    (lastW c L l b ∈ l ∧ (L[(lastW c L l b).toNat]?.getD false = false ∧ c[(lastW c L l b).toNat]?.getD 0 = m) ∧ ∀ u ∈ l, L[u.toNat]?.getD false = false → c[u.toNat]?.getD 0 = m → l.idxOf u ≤ l.idxOf (lastW c L l b))
  | [], b, _, _ => .inl ⟨rfl, fun z hz => by cases hz⟩
  | z :: t, b, hd, hb => by
    have hd' := List.nodup_cons.1 hd
    unfold lastW
    rw [hb]
    by_cases h : L[z.toNat]?.getD false = false ∧ c[z.toNat]?.getD 0 = m
    · rw [if_pos h]
      right
      rcases lastW_spec (l := t) (b := z) (L := L) hd'.2 h.2 with ⟨i1, i2⟩ | ⟨i1, i2, i3⟩
      · rw [i1]
        refine ⟨by simp, h, fun u hu h1 h2 => ?_⟩
        rcases List.mem_cons.1 hu with e | e
        · rw [e]; exact Nat.le_refl _
        · exact absurd ⟨h1, h2⟩ (i2 u e)
      · refine ⟨by simp [i1], i2, fun u hu h1 h2 => ?_⟩
        have hzr : ¬ z = lastW c L t z := fun e => hd'.1 (by rw [e]; exact i1)
        rw [List.idxOf_cons, List.idxOf_cons]
        simp only [beq_eq_false_iff_ne.2 hzr, cond_false]
        rcases List.mem_cons.1 hu with e | e
        · simp [e]
        · have hzu : ¬ z = u := fun g => hd'.1 (by rw [g]; exact e)
          have := i3 u e h1 h2
          simp only [beq_eq_false_iff_ne.2 hzu, cond_false]
          omega
    · rw [if_neg h]
      rcases lastW_spec (l := t) (b := b) (L := L) hd'.2 hb with ⟨i1, i2⟩ | ⟨i1, i2, i3⟩
      · refine .inl ⟨i1, fun u hu => ?_⟩
        rcases List.mem_cons.1 hu with e | e
        · rw [e]; exact h
        · exact i2 u e
      · refine .inr ⟨by simp [i1], i2, fun u hu h1 h2 => ?_⟩
        have hzr : ¬ z = lastW c L t b := fun e => hd'.1 (by rw [e]; exact i1)
        rw [List.idxOf_cons, List.idxOf_cons]
        simp only [beq_eq_false_iff_ne.2 hzr, cond_false]
        rcases List.mem_cons.1 hu with e | e
        · simp [e]
        · have hzu : ¬ z = u := fun g => hd'.1 (by rw [g]; exact e)
          have := i3 u e h1 h2
          simp only [beq_eq_false_iff_ne.2 hzu, cond_false]
          omega
/-- Who leaves. -/
def leastL (c : List Int) (L : List Bool) (lots : List Int) : Int := lastW c L lots (lowTo c L c.length)
/-- **k has the least count** of those who stay, and comes last in the lots among those who have as many. -/
def IsLow (c : List Int) (L : List Bool) (lots : List Int) (k : Int) : Prop :=
  k ∈ lots ∧ L[k.toNat]?.getD false = false ∧ ∀ i ∈ lots, L[i.toNat]?.getD false = false → c[k.toNat]?.getD 0 < c[i.toNat]?.getD 0 ∨ (c[k.toNat]?.getD 0 = c[i.toNat]?.getD 0 ∧ lots.idxOf i ≤ lots.idxOf k)
theorem low_one {c : List Int} {L : List Bool} {lots : List Int} {v w : Int} (hv : IsLow c L lots v) (hw : IsLow c L lots w) : v = w := by
  obtain ⟨v1, v2, v3⟩ := hv
  obtain ⟨w1, w2, w3⟩ := hw
  have a := v3 w w1 w2
  have b := w3 v v1 v2
  exact idxOf_inj v1 (by omega)
theorem low_is {c : List Int} {L : List Bool} {lots : List Int} (hl : lotsB lots = true) (hc : c.length = lots.length) (hs : ∃ i, i < lots.length ∧ L[i]?.getD false = false) : IsLow c L lots (leastL c L lots) := by
  have hm := (vB_mem hl).2.2
  obtain ⟨j, hj, hjL⟩ := hs
  rcases lowTo_spec c L c.length with ⟨_, h2⟩ | ⟨h1, h2, h3, h4⟩
  · have := h2 j (by omega); rw [hjL] at this; cases this
  · unfold leastL
    have hmem : lowTo c L c.length ∈ lots := by
      have := lots_mem hl (i := (lowTo c L c.length).toNat) (by omega)
      rwa [Int.toNat_of_nonneg h1] at this
    rcases lastW_spec (l := lots) (c := c) (L := L) (b := lowTo c L c.length) (vB_nodup hl) rfl with ⟨_, g2⟩ | ⟨g1, g2, g3⟩
    · exact absurd ⟨h3, rfl⟩ (g2 _ hmem)
    · refine ⟨g1, g2.1, fun i hi hL => ?_⟩
      have hi' := hm i hi
      have := h4 i.toNat (by omega) hL
      rw [g2.2]
      by_cases e : c[i.toNat]?.getD 0 = c[(lowTo c L c.length).toNat]?.getD 0
      · exact .inr ⟨e.symm, g3 i hi hL e⟩
      · exact .inl (by omega)
theorem low_turn {c c' : List Int} {L L' : List Bool} {lots : List Int} {w x y : Int} (hw : IsLow c L lots w) (hc : ∀ z ∈ lots, c'[(swapC x y z).toNat]?.getD 0 = c[z.toNat]?.getD 0) (hs : ∀ z ∈ lots, L'[(swapC x y z).toNat]?.getD false = L[z.toNat]?.getD false) : IsLow c' L' (turnB x y lots) (swapC x y w) := by
  obtain ⟨w1, w2, w3⟩ := hw
  refine ⟨List.mem_map.2 ⟨w, w1, rfl⟩, by rw [hs w w1]; exact w2, fun i hi hsi => ?_⟩
  obtain ⟨z, hz, rfl⟩ := List.mem_map.1 hi
  rw [hc z hz, hc w w1, idxOf_turn, idxOf_turn]
  exact w3 z hz (by rw [← hs z hz]; exact hsi)

/-! ### The rounds. -/
/-- How many stay. -/
def manyL (L : List Bool) : Nat := L.countP (fun b => !b)
theorem manyL_set : ∀ {L : List Bool} {k : Nat}, k < L.length → L[k]?.getD false = false → manyL (L.set k true) + 1 = manyL L
  | [], k, h, _ => by simp at h
  | b :: t, 0, _, h => by
    simp at h
    subst h
    simp [manyL]
  | b :: t, k + 1, h, h2 => by
    have ih := manyL_set (L := t) (k := k) (by simpa using h) (by simpa using h2)
    simp only [manyL, List.set_cons_succ, List.countP_cons] at ih ⊢
    omega
theorem manyL_some {L : List Bool} (h : 0 < manyL L) : ∃ i, i < L.length ∧ L[i]?.getD false = false := by
  obtain ⟨b, hb, h2⟩ := List.countP_pos_iff.1 h
  obtain ⟨i, hi, rfl⟩ := List.getElem_of_mem hb
  refine ⟨i, hi, ?_⟩
  simpa [hi] using h2
theorem manyL_none (n : Nat) : manyL (noneL n) = n := by
  induction n with
  | zero => rfl
  | succ n ih =>
    simp only [manyL, noneL, List.replicate_succ, List.countP_cons] at ih ⊢
    simp at ih ⊢
    exact ih
/-- Who has left before round i. -/
def leftAt (ps : List Pl) (lots : List Int) : Nat → List Bool
  | 0 => noneL lots.length
  | i + 1 => (leftAt ps lots i).set (leastL (countsL ps (leftAt ps lots i)) (leftAt ps lots i) lots).toNat true
def cAt (ps : List Pl) (lots : List Int) (i : Nat) : List Int := countsL ps (leftAt ps lots i)
def outAt (ps : List Pl) (lots : List Int) (i : Nat) : Int := leastL (cAt ps lots i) (leftAt ps lots i) lots
theorem leftAt_zero (ps : List Pl) (lots : List Int) : leftAt ps lots 0 = noneL lots.length := rfl
theorem leftAt_succ (ps : List Pl) (lots : List Int) (i : Nat) : leftAt ps lots (i + 1) = (leftAt ps lots i).set (outAt ps lots i).toNat true := rfl
theorem leftAt_length (ps : List Pl) (lots : List Int) (i : Nat) : (leftAt ps lots i).length = lots.length := by
  induction i with
  | zero => rw [leftAt_zero, noneL_length]
  | succ i ih => rw [leftAt_succ, List.length_set, ih]
theorem cAt_length (ps : List Pl) (lots : List Int) (i : Nat) : (cAt ps lots i).length = lots.length := by rw [cAt, countsL_length, leftAt_length]
theorem out_is_of {ps : List Pl} {lots : List Int} (hl : lotsB lots = true) {i : Nat} (h : 0 < manyL (leftAt ps lots i)) : IsLow (cAt ps lots i) (leftAt ps lots i) lots (outAt ps lots i) := by
  obtain ⟨j, hj, h2⟩ := manyL_some h
  exact low_is hl (cAt_length _ _ _) ⟨j, by rwa [leftAt_length] at hj, h2⟩
theorem manyAt {ps : List Pl} {lots : List Int} (hl : lotsB lots = true) {i : Nat} (h : i < lots.length) : manyL (leftAt ps lots i) + i = lots.length := by
  induction i with
  | zero => rw [leftAt_zero, manyL_none, Nat.add_zero]
  | succ i ih =>
    have ih := ih (by omega)
    have hk := out_is_of hl (ps := ps) (i := i) (by omega)
    have hr := (vB_mem hl).2.2 _ hk.1
    have := manyL_set (k := (outAt ps lots i).toNat) (L := leftAt ps lots i) (by rw [leftAt_length]; omega) hk.2.1
    rw [leftAt_succ]
    omega
theorem out_is {ps : List Pl} {lots : List Int} (hl : lotsB lots = true) {i : Nat} (h : i < lots.length) : IsLow (cAt ps lots i) (leftAt ps lots i) lots (outAt ps lots i) :=
  out_is_of hl (by have := manyAt hl (ps := ps) h; omega)
theorem out_range {ps : List Pl} {lots : List Int} (hl : lotsB lots = true) {i : Nat} (h : i < lots.length) : 0 ≤ outAt ps lots i ∧ outAt ps lots i < (lots.length : Int) := (vB_mem hl).2.2 _ (out_is hl h).1

/-- The greatest of some numbers, or 0. -/
def topI (c : List Int) : Int := c.foldl (fun b z => max b z) 0
theorem topI_snoc (c : List Int) (z : Int) : topI (c ++ [z]) = max (topI c) z := by simp [topI]
/-- A round is the last one. -/
def doneL (c : List Int) (L : List Bool) : Bool := decide (totI c < 2 * topI c) || decide (manyL L = 1)
def doneAt (ps : List Pl) (lots : List Int) (i : Nat) : Bool := doneL (cAt ps lots i) (leftAt ps lots i)
def endFrom (ps : List Pl) (lots : List Int) : Nat → Nat → Nat
  | 0, i => i
  | f + 1, i => if doneAt ps lots i = true then i else endFrom ps lots f (i + 1)
/-- The number of the last round. -/
def endL (ps : List Pl) (lots : List Int) : Nat := endFrom ps lots lots.length 0
theorem endFrom_spec {ps : List Pl} {lots : List Int} : ∀ (f i m : Nat), i ≤ m → m < i + f → doneAt ps lots m = true → i ≤ endFrom ps lots f i ∧ endFrom ps lots f i ≤ m ∧ doneAt ps lots (endFrom ps lots f i) = true ∧ ∀ j, i ≤ j → j < endFrom ps lots f i → doneAt ps lots j = false
  | 0, i, m, h1, h2, _ => by omega
  | f + 1, i, m, h1, h2, h3 => by
    unfold endFrom
    by_cases h : doneAt ps lots i = true
    · rw [if_pos h]
      exact ⟨Nat.le_refl _, h1, h, fun j hj hj2 => by omega⟩
    · rw [if_neg h]
      have hne : i ≠ m := fun e => h (by rw [e]; exact h3)
      obtain ⟨i1, i2, i3, i4⟩ := endFrom_spec (ps := ps) (lots := lots) f (i + 1) m (by omega) (by omega) h3
      refine ⟨by omega, i2, i3, fun j hj hj2 => ?_⟩
      by_cases e : j = i
      · subst e; simpa using h
      · exact i4 j (by omega) hj2
theorem done_last {ps : List Pl} {lots : List Int} (hl : lotsB lots = true) : doneAt ps lots (lots.length - 1) = true := by
  have hn := lotsB_len hl
  have := manyAt hl (ps := ps) (i := lots.length - 1) (by omega)
  simp [doneAt, doneL, show manyL (leftAt ps lots (lots.length - 1)) = 1 by omega]
theorem end_spec {ps : List Pl} {lots : List Int} (hl : lotsB lots = true) : endL ps lots < lots.length ∧ doneAt ps lots (endL ps lots) = true ∧ ∀ j, j < endL ps lots → doneAt ps lots j = false := by
  have hn := lotsB_len hl
  obtain ⟨_, h2, h3, h4⟩ := endFrom_spec (ps := ps) (lots := lots) lots.length 0 (lots.length - 1) (by omega) (by omega) (done_last hl)
  refine ⟨?_, h3, fun j hj => h4 j (by omega) hj⟩
  show endFrom ps lots lots.length 0 < lots.length
  omega
/-- **A runoff ends with a majority**, or one who is left. -/
theorem done_iff {ps : List Pl} {lots : List Int} (hl : lotsB lots = true) {i : Nat} (h : i < lots.length) : doneAt ps lots i = true ↔ totI (cAt ps lots i) < 2 * topI (cAt ps lots i) ∨ i = lots.length - 1 := by
  have := manyAt hl (ps := ps) h
  simp only [doneAt, doneL, Bool.or_eq_true, decide_eq_true_eq]
  constructor
  · rintro (g | g)
    · exact .inl g
    · exact .inr (by omega)
  · rintro (g | g)
    · exact .inl g
    · exact .inr (by omega)

/-- Who stays. -/
def stayL (L : List Bool) : List Bool := L.map (fun b => !b)
theorem stayL_at {L : List Bool} {i : Nat} (h : i < L.length) : (stayL L)[i]?.getD false = !(L[i]?.getD false) := by simp [stayL, h]
theorem stayL_none (n : Nat) : stayL (noneL n) = allL n := by simp [stayL, noneL, allL]
/-- The winner. -/
def runW (ps : List Pl) (lots : List Int) : Int := pickL lots (mostL (cAt ps lots (endL ps lots)) (stayL (leftAt ps lots (endL ps lots))))
theorem run_is {ps : List Pl} {lots : List Int} (hl : lotsB lots = true) (hp : ∀ p ∈ ps, 1 ≤ p.2) : IsWin (cAt ps lots (endL ps lots)) (stayL (leftAt ps lots (endL ps lots))) lots (runW ps lots) := by
  have he := (end_spec hl (ps := ps)).1
  have hm := manyAt hl (ps := ps) he
  obtain ⟨j, hj, h2⟩ := manyL_some (L := leftAt ps lots (endL ps lots)) (by omega)
  refine win_pick hl (cAt_length _ _ _) (fun i hi => ?_) ⟨j, by rw [cAt_length]; rwa [leftAt_length] at hj, by rw [stayL_at hj, h2]; rfl⟩
  rw [cAt_length] at hi
  exact counts_low (by rw [leftAt_length]; exact hi) hp
/-- Who has left stays away. -/
theorem left_stays {ps : List Pl} {lots : List Int} (hl : lotsB lots = true) {i j : Nat} (hij : i < j) (hj : j < lots.length) : (leftAt ps lots j)[(outAt ps lots i).toNat]?.getD false = true := by
  induction j with
  | zero => omega
  | succ j ih =>
    have hr := out_range hl (ps := ps) (i := j) (by omega)
    rw [leftAt_succ, set_at _ _ _ (by rw [leftAt_length]; omega)]
    by_cases e : (outAt ps lots i).toNat = (outAt ps lots j).toNat
    · rw [if_pos e]
    · rw [if_neg e]
      refine ih ?_ (by omega)
      rcases Nat.lt_or_ge i j with g | g
      · exact g
      · have : i = j := by omega
        subst this; exact absurd rfl e
/-- **The winner has never left.** -/
theorem run_in {ps : List Pl} {lots : List Int} (hl : lotsB lots = true) (hp : ∀ p ∈ ps, 1 ≤ p.2) {i : Nat} (hi : i < endL ps lots) : outAt ps lots i ≠ runW ps lots := by
  intro e
  have he := (end_spec hl (ps := ps)).1
  have hw := run_is hl hp
  have hr := (vB_mem hl).2.2 _ hw.1
  have h1 := left_stays hl (ps := ps) hi he
  have h2 := hw.2.1
  rw [stayL_at (by rw [leftAt_length]; omega), ← e, h1] at h2
  cases h2
theorem topI_of {c : List Int} {m : Int} (h0 : 0 ≤ m) (h : ∀ z ∈ c, z ≤ m) (hm : m = 0 ∨ m ∈ c) : topI c = m := by
  have key : ∀ (c : List Int) (b : Int), b ≤ m → (∀ z ∈ c, z ≤ m) → (b = m ∨ m ∈ c) → c.foldl (fun b z => max b z) b = m := by
    intro c
    induction c with
    | nil => intro b _ _ hm; rcases hm with e | e; exact e; cases e
    | cons z t ih =>
      intro b hb h hm
      have hz := h z (by simp)
      refine ih (max b z) (by omega) (fun u hu => h u (by simp [hu])) ?_
      rcases hm with e | e
      · exact .inl (by omega)
      · rcases List.mem_cons.1 e with g | g
        · exact .inl (by omega)
        · exact .inr g
  exact key c 0 h0 h (by rcases hm with e | e; exact .inl e.symm; exact .inr e)
/-- **The winner has most in the last round.** -/
theorem run_top {ps : List Pl} {lots : List Int} (hl : lotsB lots = true) (hp : ∀ p ∈ ps, 1 ≤ p.2) : topI (cAt ps lots (endL ps lots)) = (cAt ps lots (endL ps lots))[(runW ps lots).toNat]?.getD 0 := by
  have hw := run_is hl hp
  have hr := (vB_mem hl).2.2 _ hw.1
  have hlow : ∀ i, i < lots.length → 0 ≤ (cAt ps lots (endL ps lots))[i]?.getD 0 := fun i hi => counts_low (by rw [leftAt_length]; exact hi) hp
  refine topI_of (hlow _ (by omega)) (fun z hz => ?_) (.inr ?_)
  · obtain ⟨i, hi, rfl⟩ := List.getElem_of_mem hz
    rw [cAt_length] at hi
    have e : (cAt ps lots (endL ps lots))[i]?.getD 0 = (cAt ps lots (endL ps lots))[i] := by simp [cAt_length, hi]
    rw [← e]
    by_cases g : (leftAt ps lots (endL ps lots))[i]?.getD false = true
    · have : (cAt ps lots (endL ps lots))[i]?.getD 0 = 0 := counts_left (by rw [leftAt_length]; exact hi) g
      have := hlow (runW ps lots).toNat (by omega)
      omega
    · have := hw.2.2 (i : Int) (lots_mem hl hi) (by rw [Int.toNat_natCast, stayL_at (by rw [leftAt_length]; exact hi)]; simpa using g)
      rw [Int.toNat_natCast] at this
      omega
  · have hlt : (runW ps lots).toNat < (cAt ps lots (endL ps lots)).length := by rw [cAt_length]; omega
    have e : (cAt ps lots (endL ps lots))[(runW ps lots).toNat]?.getD 0 = (cAt ps lots (endL ps lots))[(runW ps lots).toNat] := by simp [hlt]
    rw [e]
    exact List.getElem_mem _

end Go.Proofs.Ytojfpnjnbpeniaa
