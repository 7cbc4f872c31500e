/-
  Runoffs, as lists: a majority at once, two candidates exchanged, ballots that name nobody. Of no memory.
  Counts of depths, as lists: a greater depth, all named candidates, the least depth of a majority, its winner. Of no memory.
  Whom a ballot prefers, as lists. Of no memory.
  Preferences of pairs as a table of numbers: whom one reaches, the strongest paths, the top, the best ones. Of no memory.
  A table is a function of two candidates; a stage of the program, which writes in place, is the same as one that writes anew: its row and its column keep their numbers.
  Preferences of pairs are counted, as lists: of parts, of merged piles, with two candidates exchanged; the winner of pairs. Of no memory.
-/
import Derived.Test.YtojfpnjnbpeniabGrp9
import Derived.Test.YtojfpnjnbpeniabGrp1
namespace Go.Proofs.Ytojfpnjnbpeniab

theorem topI_spec (c : List Int) : 0 ≤ topI c ∧ (∀ z ∈ c, z ≤ topI c) ∧ (topI c = 0 ∨ topI c ∈ c) := by
  have key : ∀ (c : List Int) (b : Int), b ≤ c.foldl (fun b z => max b z) b ∧ (∀ z ∈ c, z ≤ c.foldl (fun b z => max b z) b) ∧ (c.foldl (fun b z => max b z) b = b ∨ c.foldl (fun b z => max b z) b ∈ c) := by
    intro c
    induction c with
    | nil => intro b; exact ⟨Int.le_refl _, fun z hz => (by cases hz), .inl rfl⟩
    | cons z t ih =>
      intro b
      obtain ⟨i1, i2, i3⟩ := ih (max b z)
      rw [List.foldl_cons]
      refine ⟨by omega, fun u hu => ?_, ?_⟩
      · rcases List.mem_cons.1 hu with e | e
        · subst e; omega
        · exact i2 u e
      · rcases i3 with e | e
        · by_cases g : b ≤ z
          · right; rw [e, show max b z = z by omega]; simp
          · left; rw [e]; omega
        · exact .inr (by simp [e])
  exact key c 0
theorem topI_at (c : List Int) {i : Nat} (h : i < c.length) : c[i]?.getD 0 ≤ topI c := by
  refine (topI_spec c).2.1 _ ?_
  simp [h]
/-- **Who has a majority wins at once.** -/
theorem run_major {ps : List Pl} {lots : List Int} (hl : lotsB lots = true) {k : Nat} (hk : k < lots.length) (h : totI (plurC ps lots.length) < 2 * (plurC ps lots.length)[k]?.getD 0) : endL ps lots = 0 ∧ runW ps lots = winL ps lots := by
  have hn := lotsB_len hl
  have e0 : cAt ps lots 0 = plurC ps lots.length := rfl
  have ht := topI_at (plurC ps lots.length) (i := k) (by rw [plurC_length]; exact hk)
  have hd : doneAt ps lots 0 = true := (done_iff hl (by omega)).2 (.inl (by rw [e0]; omega))
  have he : endL ps lots = 0 := by
    have := (end_spec hl (ps := ps)).2.2 0
    cases g : endL ps lots with
    | zero => rfl
    | succ m => rw [g] at this; have := this (by omega); rw [hd] at this; cases this
  refine ⟨he, ?_⟩
  unfold runW winL
  rw [he, e0, leftAt_zero, stayL_none]

/-- What counts the same ends the same. -/
theorem leftAt_same {ps ps' : List Pl} {lots : List Int} (h : ∀ L, countsL ps' L = countsL ps L) (i : Nat) : leftAt ps' lots i = leftAt ps lots i := by
  induction i with
  | zero => rfl
  | succ i ih => rw [leftAt_succ, leftAt_succ]; unfold outAt cAt; rw [ih, h]
theorem run_same {ps ps' : List Pl} {lots : List Int} (h : ∀ L, countsL ps' L = countsL ps L) : runW ps' lots = runW ps lots := by
  have hc : ∀ i, cAt ps' lots i = cAt ps lots i := fun i => by unfold cAt; rw [leftAt_same h, h]
  have hd : ∀ i, doneAt ps' lots i = doneAt ps lots i := fun i => by unfold doneAt; rw [hc, leftAt_same h]
  have hf : ∀ f i, endFrom ps' lots f i = endFrom ps lots f i := by
    intro f
    induction f with
    | zero => intro i; rfl
    | succ f ih => intro i; unfold endFrom; rw [hd, ih]
  unfold runW endL
  rw [hf, hc, leftAt_same h]
/-- **A ballot that names nobody has no influence.** -/
theorem run_alone (ps : List Pl) (m : Int) (lots : List Int) : runW (putL ps ByteArray.empty m) lots = runW ps lots := by
  refine run_same (fun L => ?_)
  refine List.ext_getElem (by simp [countsL]) (fun i h1 h2 => ?_)
  simp only [countsL, List.getElem_map, List.getElem_range, wsum_put]
  have hp : parseL ByteArray.empty = [] := List.eq_nil_of_length_eq_zero (by
    cases hv : validB (nums ByteArray.empty) 5
    · rw [parseL_no hv]; rfl
    · rw [parseL_ok hv, nums_length]; rfl)
  have : oneF L i ByteArray.empty = 0 := by unfold oneF; rw [hp, firstL, if_neg (by omega)]
  rw [this, Int.zero_mul, Int.add_zero]

/-! ### Two candidates exchanged. -/
theorem lots_turn {lots : List Int} (hl : lotsB lots = true) {x y : Int} (hx : 0 ≤ x ∧ x < (lots.length : Int)) (hy : 0 ≤ y ∧ y < (lots.length : Int)) : lotsB (turnB x y lots) = true ∧ (turnB x y lots).length = lots.length := by
  have hn := lotsB_len hl
  have hm := (vB_mem hl).2.2
  have hlen : (turnB x y lots).length = lots.length := by simp [turnB]
  refine ⟨?_, hlen⟩
  unfold lotsB
  refine vB_of (by omega) (by omega) ?_ (fun z hz => ?_)
  · unfold turnB List.Nodup
    rw [List.pairwise_map]
    exact List.Pairwise.imp (fun {a b} hab e => hab (swapC_inj e)) (vB_nodup hl)
  · obtain ⟨u, hu, rfl⟩ := List.mem_map.1 hz
    have := hm u hu
    rw [hlen]
    exact ⟨swapC_low hx.1 hy.1 this.1, swapC_high hx.2 hy.2 this.2⟩
theorem swapC_in {x y n z : Int} (hx : 0 ≤ x ∧ x < n) (hy : 0 ≤ y ∧ y < n) : (0 ≤ swapC x y z ∧ swapC x y z < n) ↔ 0 ≤ z ∧ z < n := by
  constructor
  · intro h
    have h1 := swapC_low hx.1 hy.1 h.1
    have h2 := swapC_high hx.2 hy.2 h.2
    rw [swapC_twice] at h1 h2
    exact ⟨h1, h2⟩
  · intro h
    exact ⟨swapC_low hx.1 hy.1 h.1, swapC_high hx.2 hy.2 h.2⟩
/-- Flags of turned candidates. -/
def TurnedL (x y : Int) (L L' : List Bool) : Prop := ∀ z : Int, 0 ≤ z → z ≤ 4 → L'[(swapC x y z).toNat]?.getD false = L[z.toNat]?.getD false
theorem sum_turn {ps : List Pl} {L L' : List Bool} {x y : Int} (hx : 0 ≤ x ∧ x < (L.length : Int)) (hy : 0 ≤ y ∧ y < (L.length : Int)) (h5 : L.length ≤ 5) (hlen : L'.length = L.length) (hv : ∀ p ∈ ps, validB (nums p.1) 5 = true) (hL : TurnedL x y L L') : totI (countsL (turnPs x y ps) L') = totI (countsL ps L) := by
  rw [counts_sum, counts_sum, wsum_turn]
  refine wsum_congr (fun p hp => ?_)
  have h5' := hv p hp
  have hm := vB_mem h5'
  have e1 : firstL (parseL (turnT x y p.1)) L' = swapC x y (firstL (parseL p.1) L) := by
    rw [parse_turn (by omega) (by omega) h5']
    refine firstL_turn hx.1 hy.1 (fun z hz => ?_)
    rw [parseL_ok h5'] at hz
    have := hm.2.2 z hz
    exact hL z this.1 (by omega)
  unfold someF
  rw [e1, hlen]
  by_cases e : 0 ≤ firstL (parseL p.1) L ∧ firstL (parseL p.1) L < (L.length : Int)
  · rw [if_pos e, if_pos ((swapC_in hx hy).2 e)]
  · rw [if_neg e, if_neg (fun g => e ((swapC_in hx hy).1 g))]
theorem top_turn {c c' : List Int} {x y : Int} (hx : 0 ≤ x ∧ x < (c.length : Int)) (hy : 0 ≤ y ∧ y < (c.length : Int)) (hlen : c'.length = c.length) (h : ∀ k : Nat, k < c.length → c'[(swapC x y (k : Int)).toNat]?.getD 0 = c[k]?.getD 0) : topI c' = topI c := by
  obtain ⟨t1, t2, t3⟩ := topI_spec c
  refine topI_of t1 (fun z hz => ?_) ?_
  · obtain ⟨j, hj, rfl⟩ := List.getElem_of_mem hz
    have hs := (swapC_in (z := (j : Int)) hx hy).2 ⟨by omega, by omega⟩
    have hk := h (swapC x y (j : Int)).toNat (by omega)
    rw [Int.toNat_of_nonneg hs.1, swapC_twice, Int.toNat_natCast] at hk
    have e : c'[j]?.getD 0 = c'[j] := by simp [hj]
    rw [← e, hk]
    exact topI_at c (by omega)
  · rcases t3 with e | e
    · exact .inl e
    · right
      obtain ⟨k, hk, hke⟩ := List.getElem_of_mem e
      have hs := (swapC_in (z := (k : Int)) hx hy).2 ⟨by omega, by omega⟩
      have hk2 := h k hk
      have hlt : (swapC x y (k : Int)).toNat < c'.length := by omega
      have e1 : c[k]?.getD 0 = c[k] := by simp [hk]
      have e2 : c'[(swapC x y (k : Int)).toNat]?.getD 0 = c'[(swapC x y (k : Int)).toNat] := by simp [hlt]
      rw [← hke, ← e1, ← hk2, e2]
      exact List.getElem_mem _
theorem at_turn {ps : List Pl} {lots : List Int} (hl : lotsB lots = true) (hps : pilesB ps = true) {x y : Int} (hx : 0 ≤ x ∧ x < (lots.length : Int)) (hy : 0 ≤ y ∧ y < (lots.length : Int)) : ∀ i, i < lots.length → TurnedL x y (leftAt ps lots i) (leftAt (turnPs x y ps) (turnB x y lots) i) ∧
    (∀ k : Nat, k < lots.length → (cAt (turnPs x y ps) (turnB x y lots) i)[(swapC x y (k : Int)).toNat]?.getD 0 = (cAt ps lots i)[k]?.getD 0) ∧ outAt (turnPs x y ps) (turnB x y lots) i = swapC x y (outAt ps lots i) := by
  have hn := lotsB_len hl
  have hm := (vB_mem hl).2.2
  have hpp := pilesB_pos hps
  obtain ⟨hl', hlen⟩ := lots_turn hl hx hy
  have step : ∀ i, i < lots.length → TurnedL x y (leftAt ps lots i) (leftAt (turnPs x y ps) (turnB x y lots) i) →
      (∀ k : Nat, k < lots.length → (cAt (turnPs x y ps) (turnB x y lots) i)[(swapC x y (k : Int)).toNat]?.getD 0 = (cAt ps lots i)[k]?.getD 0) ∧ outAt (turnPs x y ps) (turnB x y lots) i = swapC x y (outAt ps lots i) := by
    intro i hi hT
    have hc : ∀ k : Nat, k < lots.length → (cAt (turnPs x y ps) (turnB x y lots) i)[(swapC x y (k : Int)).toNat]?.getD 0 = (cAt ps lots i)[k]?.getD 0 := fun k hk => by
      have hs := (swapC_in (z := (k : Int)) hx hy).2 ⟨by omega, by omega⟩
      exact counts_turn (by omega) (by omega) hpp.2.2.2.1 hT (by rw [leftAt_length]; exact hk) (by rw [leftAt_length, hlen]; omega)
    refine ⟨hc, low_one (out_is hl' (by omega)) (low_turn (out_is hl hi) (fun z hz => ?_) (fun z hz => ?_))⟩
    · have hz' := hm z hz
      have := hc z.toNat (by omega)
      rwa [Int.toNat_of_nonneg hz'.1] at this
    · have hz' := hm z hz
      exact hT z hz'.1 (by omega)
  intro i
  induction i with
  | zero =>
    intro hi
    have hT : TurnedL x y (leftAt ps lots 0) (leftAt (turnPs x y ps) (turnB x y lots) 0) := fun z _ _ => by
      rw [leftAt_zero, leftAt_zero, noneL_at, noneL_at]
    exact ⟨hT, step 0 hi hT⟩
  | succ i ih =>
    intro hi
    obtain ⟨i1, _, i3⟩ := ih (by omega)
    have ho := out_range hl (ps := ps) (i := i) (by omega)
    have hos := (swapC_in (z := outAt ps lots i) hx hy).2 ho
    have hT : TurnedL x y (leftAt ps lots (i + 1)) (leftAt (turnPs x y ps) (turnB x y lots) (i + 1)) := fun z h0 h4 => by
      have hz := swapC_low hx.1 hy.1 h0
      rw [leftAt_succ, leftAt_succ, i3, set_at _ _ _ (by rw [leftAt_length, hlen]; omega), set_at _ _ _ (by rw [leftAt_length]; omega)]
      by_cases e : z = outAt ps lots i
      · rw [if_pos (by rw [e]), if_pos (by rw [e])]
      · have e2 : swapC x y z ≠ swapC x y (outAt ps lots i) := fun g => e (swapC_inj g)
        rw [if_neg (by omega), if_neg (by omega)]
        exact i1 z h0 h4
    exact ⟨hT, step (i + 1) hi hT⟩
/-- **Candidates are treated alike.** -/
theorem run_turn {ps : List Pl} {lots : List Int} (hl : lotsB lots = true) (hps : pilesB ps = true) {x y : Int} (hx : 0 ≤ x ∧ x < (lots.length : Int)) (hy : 0 ≤ y ∧ y < (lots.length : Int)) : endL (turnPs x y ps) (turnB x y lots) = endL ps lots ∧ runW (turnPs x y ps) (turnB x y lots) = swapC x y (runW ps lots) := by
  have hn := lotsB_len hl
  have hm := (vB_mem hl).2.2
  have hpp := pilesB_pos hps
  obtain ⟨hl', hlen⟩ := lots_turn hl hx hy
  have hall := at_turn hl hps hx hy
  have hd : ∀ i, i < lots.length → doneAt (turnPs x y ps) (turnB x y lots) i = doneAt ps lots i := fun i hi => by
    obtain ⟨h1, h2, _⟩ := hall i hi
    have e1 : totI (cAt (turnPs x y ps) (turnB x y lots) i) = totI (cAt ps lots i) :=
      sum_turn (by rw [leftAt_length]; exact hx) (by rw [leftAt_length]; exact hy) (by rw [leftAt_length]; omega) (by rw [leftAt_length, leftAt_length, hlen]) hpp.2.2.2.1 h1
    have e2 : topI (cAt (turnPs x y ps) (turnB x y lots) i) = topI (cAt ps lots i) :=
      top_turn (by rw [cAt_length]; exact hx) (by rw [cAt_length]; exact hy) (by rw [cAt_length, cAt_length, hlen]) (fun k hk => h2 k (by rwa [cAt_length] at hk))
    have a := done_iff hl (ps := ps) hi
    have b := done_iff hl' (ps := turnPs x y ps) (i := i) (by omega)
    rw [e1, e2, hlen, ← a] at b
    cases g : doneAt ps lots i
    · cases g' : doneAt (turnPs x y ps) (turnB x y lots) i
      · rfl
      · have := b.1 g'; rw [g] at this; cases this
    · exact b.2 g
  obtain ⟨a1, a2, a3⟩ := end_spec hl (ps := ps)
  obtain ⟨b1, b2, b3⟩ := end_spec hl' (ps := turnPs x y ps)
  have he : endL (turnPs x y ps) (turnB x y lots) = endL ps lots := by
    rw [hlen] at b1
    rcases Nat.lt_trichotomy (endL (turnPs x y ps) (turnB x y lots)) (endL ps lots) with g | g | g
    · have := a3 _ g; rw [← hd _ b1, b2] at this; cases this
    · exact g
    · have := b3 _ g; rw [hd _ a1, a2] at this; cases this
  refine ⟨he, ?_⟩
  have hw' := run_is hl' (ps := turnPs x y ps) (turnPs_pos hpp.2.1)
  rw [he] at hw'
  obtain ⟨h1, h2, _⟩ := hall _ a1
  refine win_one hw' (win_turn (run_is hl hpp.2.1) (fun z hz => ?_) (fun z hz => ?_))
  · have hz' := hm z hz
    have := h2 z.toNat (by omega)
    rwa [Int.toNat_of_nonneg hz'.1] at this
  · have hz' := hm z hz
    have hs := (swapC_in hx hy).2 hz'
    rw [stayL_at (by rw [leftAt_length, hlen]; omega), stayL_at (by rw [leftAt_length]; omega), h1 z hz'.1 (by omega)]

end Go.Proofs.Ytojfpnjnbpeniab

namespace Go.Proofs.Ytojfpnjnbpeniab

/-- Whether k is among the first d ones of a text. -/
def depF (d k : Nat) (t : ByteArray) : Int := if (k : Int) ∈ (parseL t).take d then 1 else 0
def depL (ps : List Pl) (n d : Nat) : List Int := (List.range n).map fun k => wsum (depF d k) ps
theorem depL_length (ps : List Pl) (n d : Nat) : (depL ps n d).length = n := by simp [depL]
theorem depL_at (ps : List Pl) (d : Nat) {n k : Nat} (h : k < n) : (depL ps n d)[k]?.getD 0 = wsum (depF d k) ps := by simp [depL, h]
theorem depF_low (d k : Nat) (t : ByteArray) : 0 ≤ depF d k t := by unfold depF; split <;> omega
theorem depF_high (d k : Nat) (t : ByteArray) : depF d k t ≤ 1 := by unfold depF; split <;> omega
theorem depL_low {ps : List Pl} (hp : ∀ p ∈ ps, 1 ≤ p.2) (d : Nat) {n k : Nat} (h : k < n) : 0 ≤ (depL ps n d)[k]?.getD 0 := by
  rw [depL_at ps d h]; exact wsum_nonneg (fun _ _ => depF_low _ _ _) hp
theorem depL_most {ps : List Pl} (hp : ∀ p ∈ ps, 1 ≤ p.2) (d : Nat) {n k : Nat} (h : k < n) : (depL ps n d)[k]?.getD 0 ≤ sumL ps := by
  rw [depL_at ps d h]; exact wsum_most (fun _ _ => depF_high _ _ _) hp
/-- **A greater depth counts more.** -/
theorem depL_more {ps : List Pl} (hp : ∀ p ∈ ps, 1 ≤ p.2) {d e n k : Nat} (hde : d ≤ e) (h : k < n) : (depL ps n d)[k]?.getD 0 ≤ (depL ps n e)[k]?.getD 0 := by
  rw [depL_at ps d h, depL_at ps e h]
  refine wsum_le (fun p _ => ?_) hp
  unfold depF
  by_cases g : (k : Int) ∈ (parseL p.1).take d
  · rw [if_pos g, if_pos (List.mem_of_mem_take (i := d) (by rw [List.take_take, Nat.min_eq_left hde]; exact g))]
    exact Int.le_refl _
  · rw [if_neg g]; split <;> omega
theorem depL_zero (ps : List Pl) (n : Nat) : depL ps n 0 = List.replicate n 0 := by
  refine List.ext_getElem (by simp [depL]) (fun i h1 h2 => ?_)
  simp only [depL, List.getElem_map, List.getElem_range, List.getElem_replicate]
  rw [← wsum_zero ps]
  exact wsum_congr (fun p _ => by unfold depF; simp)
theorem depL_one (ps : List Pl) (n : Nat) : depL ps n 1 = plurC ps n := by
  refine List.ext_getElem (by rw [depL_length, plurC_length]) (fun i h1 h2 => ?_)
  simp only [depL, plurC, countsL, List.getElem_map, List.getElem_range]
  refine wsum_congr (fun p _ => ?_)
  unfold depF oneF
  rw [noneL, firstL_none]
  cases parseL p.1 with
  | nil => simp
  | cons z t =>
    by_cases e : z = (i : Int)
    · rw [if_pos (show (i : Int) ∈ (z :: t).take 1 by simp [e]), if_pos (show (z :: t).head?.getD (-1) = (i : Int) from e)]
    · rw [if_neg (show ¬ (i : Int) ∈ (z :: t).take 1 by simp only [List.take_succ_cons, List.take_zero, List.mem_singleton]; exact fun g => e g.symm), if_neg (show ¬ (z :: t).head?.getD (-1) = (i : Int) from e)]
/-- How many of 0 to n-1 are in a list without repetition. -/
theorem totI_in {n : Nat} : ∀ {l : List Int}, l.Nodup → (∀ z ∈ l, 0 ≤ z ∧ z < (n : Int)) → totI ((List.range n).map fun (k : Nat) => if (k : Int) ∈ l then (1 : Int) else 0) = l.length
  | [], _, _ => by
    have : ((List.range n).map fun (k : Nat) => if (k : Int) ∈ ([] : List Int) then (1 : Int) else 0) = (List.range n).map fun (k : Nat) => if (-1 : Int) = (k : Int) then (1 : Int) else 0 := by
      refine List.map_congr_left (fun k _ => ?_)
      rw [if_neg (by simp), if_neg (by omega)]
    rw [this, totI_one, if_neg (by omega)]; rfl
  | z :: t, hd, hm => by
    have hd' := List.nodup_cons.1 hd
    have ih := totI_in (l := t) hd'.2 (fun u hu => hm u (by simp [hu]))
    have hz := hm z (by simp)
    have h1 := totI_one n z
    rw [if_pos hz] at h1
    have key : ∀ m, totI ((List.range m).map fun (k : Nat) => if (k : Int) ∈ z :: t then (1 : Int) else 0) = totI ((List.range m).map fun (k : Nat) => if z = (k : Int) then (1 : Int) else 0) + totI ((List.range m).map fun (k : Nat) => if (k : Int) ∈ t then (1 : Int) else 0) := by
      intro m
      induction m with
      | zero => rfl
      | succ m im =>
        simp only [List.range_succ, List.map_append, List.map_cons, List.map_nil, totI_snoc]
        rw [im]
        by_cases e : z = (m : Int)
        · have hn : ¬ (m : Int) ∈ t := fun g => hd'.1 (by rw [e]; exact g)
          rw [if_pos (by simp [e]), if_pos e, if_neg hn]; omega
        · by_cases g : (m : Int) ∈ t
          · rw [if_pos (by simp [g]), if_neg e, if_pos g]; omega
          · rw [if_neg (by simp only [List.mem_cons, not_or]; exact ⟨fun g2 => e g2.symm, g⟩), if_neg e, if_neg g]; omega
    rw [key, h1, ih, List.length_cons]; omega
/-- **All named candidates are counted.** -/
theorem depL_all {ps : List Pl} {n : Nat} (hv : ∀ p ∈ ps, validB (nums p.1) 5 = true ∧ validB (nums p.1) (n : Int) = true) : totI (depL ps n 5) = wsum (fun t => (t.size : Int)) ps := by
  unfold depL
  rw [totI_wsum]
  refine wsum_congr (fun p hp => ?_)
  obtain ⟨h5, hn⟩ := hv p hp
  have hs := vB_short h5
  have := totI_in (n := n) (vB_nodup hn) (vB_mem hn).2.2
  rw [nums_length] at this
  rw [← this]
  unfold depF
  rw [parseL_ok h5, List.take_of_length_le (by omega)]

/-- A count is more than half of all ballots. -/
def overL (c : List Int) (total : Int) : Bool := c.any fun z => decide (total < 2 * z)
/-- The least depth with a majority, from d on; f bounds the search. -/
def depFrom (ps : List Pl) (n : Nat) : Nat → Nat → Nat
  | 0, d => d
  | f + 1, d => if d < n ∧ overL (depL ps n d) (sumL ps) = false then depFrom ps n f (d + 1) else d
def depAt (ps : List Pl) (n : Nat) : Nat := depFrom ps n n 1
theorem depFrom_spec {ps : List Pl} {n : Nat} : ∀ (f d : Nat), d ≤ n → n ≤ d + f → d ≤ depFrom ps n f d ∧ depFrom ps n f d ≤ n ∧ (depFrom ps n f d < n → overL (depL ps n (depFrom ps n f d)) (sumL ps) = true) ∧ ∀ j, d ≤ j → j < depFrom ps n f d → overL (depL ps n j) (sumL ps) = false
  | 0, d, h1, h2 => by
    unfold depFrom
    exact ⟨Nat.le_refl _, h1, fun h => by omega, fun j a b => by omega⟩
  | f + 1, d, h1, h2 => by
    unfold depFrom
    by_cases h : d < n ∧ overL (depL ps n d) (sumL ps) = false
    · rw [if_pos h]
      obtain ⟨i1, i2, i3, i4⟩ := depFrom_spec (ps := ps) (n := n) f (d + 1) (by omega) (by omega)
      refine ⟨by omega, i2, i3, fun j a b => ?_⟩
      by_cases e : j = d
      · subst e; exact h.2
      · exact i4 j (by omega) b
    · rw [if_neg h]
      refine ⟨Nat.le_refl _, h1, fun g => ?_, fun j a b => by omega⟩
      cases e : overL (depL ps n d) (sumL ps)
      · exact absurd ⟨g, e⟩ h
      · rfl
theorem overL_no {c : List Int} {total : Int} (h : overL c total = false) {i : Nat} (hi : i < c.length) : 2 * c[i]?.getD 0 ≤ total := by
  have e : c[i]?.getD 0 = c[i] := by simp [hi]
  rw [overL, List.any_eq_false] at h
  have := h c[i] (List.getElem_mem _)
  rw [e]
  simpa using this
theorem overL_top {c : List Int} {total : Int} (h0 : 0 ≤ total) (h : overL c total = false) : 2 * topI c ≤ total := by
  rcases (topI_spec c).2.2 with e | e
  · omega
  · obtain ⟨i, hi, hie⟩ := List.getElem_of_mem e
    have := overL_no h hi
    have e2 : c[i]?.getD 0 = c[i] := by simp [hi]
    omega
def depW (ps : List Pl) (lots : List Int) : Int := pickL lots (mostL (depL ps lots.length (depAt ps lots.length)) (allL lots.length))
theorem dep_win {ps : List Pl} {lots : List Int} (hl : lotsB lots = true) (hp : ∀ p ∈ ps, 1 ≤ p.2) (d : Nat) : IsWin (depL ps lots.length d) (allL lots.length) lots (pickL lots (mostL (depL ps lots.length d) (allL lots.length))) := by
  have hn := lotsB_len hl
  refine win_pick hl (depL_length _ _ _) (fun i hi => ?_) ⟨0, ?_, allL_at (by omega)⟩
  · rw [depL_length] at hi; exact depL_low hp d hi
  · rw [depL_length]; omega
/-- Who has the greatest count has the greatest number. -/
theorem win_top {c : List Int} {lots : List Int} {w : Int} (hl : lotsB lots = true) (hc : c.length = lots.length) (h0 : ∀ i, i < c.length → 0 ≤ c[i]?.getD 0) (hw : IsWin c (allL lots.length) lots w) : topI c = c[w.toNat]?.getD 0 := by
  have hr := (vB_mem hl).2.2 _ hw.1
  refine topI_of (h0 _ (by omega)) (fun z hz => ?_) (.inr ?_)
  · obtain ⟨i, hi, rfl⟩ := List.getElem_of_mem hz
    have e : c[i]?.getD 0 = c[i] := by simp [hi]
    have := hw.2.2 (i : Int) (lots_mem hl (by omega)) (allL_at (by omega))
    rw [Int.toNat_natCast] at this
    omega
  · have hlt : w.toNat < c.length := by omega
    have e : c[w.toNat]?.getD 0 = c[w.toNat] := by simp [hlt]
    rw [e]
    exact List.getElem_mem _
theorem sumL_low {ps : List Pl} (hp : ∀ p ∈ ps, 1 ≤ p.2) : 0 ≤ sumL ps := by
  rw [← wsum_one]; exact wsum_nonneg (fun _ _ => by omega) hp
/-- **The winner has most at this depth**; a lesser depth has no majority. -/
theorem dep_is {ps : List Pl} {lots : List Int} (hl : lotsB lots = true) (hp : ∀ p ∈ ps, 1 ≤ p.2) : 1 ≤ depAt ps lots.length ∧ depAt ps lots.length ≤ lots.length ∧ topI (depL ps lots.length (depAt ps lots.length)) = (depL ps lots.length (depAt ps lots.length))[(depW ps lots).toNat]?.getD 0 ∧ 2 * topI (depL ps lots.length (depAt ps lots.length - 1)) ≤ sumL ps := by
  have hn := lotsB_len hl
  obtain ⟨h1, h2, _, h4⟩ := depFrom_spec (ps := ps) (n := lots.length) lots.length 1 hn.1 (by omega)
  refine ⟨h1, h2, win_top hl (depL_length _ _ _) (fun i hi => depL_low hp _ (by rwa [depL_length] at hi)) (dep_win hl hp _), ?_⟩
  have h1' : 1 ≤ depAt ps lots.length := h1
  by_cases e : depAt ps lots.length = 1
  · rw [e, Nat.sub_self, depL_zero]
    have : topI (List.replicate lots.length 0) = 0 := topI_of (Int.le_refl _) (fun z hz => by rw [List.eq_of_mem_replicate hz]; exact Int.le_refl _) (.inl rfl)
    rw [this]
    have := sumL_low hp
    omega
  · have := h4 (depAt ps lots.length - 1) (by omega) (show depAt ps lots.length - 1 < depAt ps lots.length by omega)
    exact overL_top (sumL_low hp) this
/-- **A majority wins at once.** -/
theorem dep_one {ps : List Pl} {lots : List Int} (hl : lotsB lots = true) (hp : ∀ p ∈ ps, 1 ≤ p.2) : (depAt ps lots.length = 1 → depW ps lots = winL ps lots) ∧ (sumL ps < 2 * (plurC ps lots.length)[(winL ps lots).toNat]?.getD 0 → depAt ps lots.length = 1) := by
  have hn := lotsB_len hl
  have hr := winL_range hl hp
  obtain ⟨h1, h2, _, h4⟩ := depFrom_spec (ps := ps) (n := lots.length) lots.length 1 hn.1 (by omega)
  refine ⟨fun e => by unfold depW winL; rw [e, depL_one], fun h => ?_⟩
  rcases Nat.lt_or_ge 1 (depAt ps lots.length) with g | g
  · have := h4 1 (Nat.le_refl _) g
    have := overL_no this (i := (winL ps lots).toNat) (by rw [depL_length]; omega)
    rw [depL_one] at this
    omega
  · have : 1 ≤ depAt ps lots.length := h1
    omega

end Go.Proofs.Ytojfpnjnbpeniab

namespace Go.Proofs.Ytojfpnjnbpeniab

/-- The first of x and y in a list is x. -/
def prefL : List Int → Int → Int → Bool
  | [], _, _ => false
  | z :: t, x, y => if z = x then true else if z = y then false else prefL t x y
theorem prefL_app {pre : List Int} {x y : Int} (h : ∀ z ∈ pre, z ≠ x ∧ z ≠ y) (rest : List Int) : prefL (pre ++ rest) x y = prefL rest x y := by
  induction pre with
  | nil => rfl
  | cons z t ih =>
    have hz := h z (by simp)
    rw [List.cons_append, prefL, if_neg hz.1, if_neg hz.2]
    exact ih (fun u hu => h u (by simp [hu]))
/-- **spec.BallotPrefers**, said of lists. -/
def prefB (zs : List Int) (x y : Int) : Bool := if validB zs 5 = true ∧ x ≠ y then prefL zs x y else false

theorem prefL_anti (x y : Int) (hxy : x ≠ y) : ∀ zs : List Int, prefL zs x y = true → prefL zs y x = false
  | [], h => by cases h
  | z :: t, h => by
    by_cases hx : z = x
    · have hy : z ≠ y := by rw [hx]; exact hxy
      rw [prefL, if_neg hy, if_pos hx]
    · by_cases hy : z = y
      · rw [prefL, if_neg hx, if_pos hy] at h; cases h
      · rw [prefL, if_neg hx, if_neg hy] at h
        rw [prefL, if_neg hy, if_neg hx]
        exact prefL_anti x y hxy t h
theorem prefB_anti {zs : List Int} {x y : Int} (h : prefB zs x y = true) : prefB zs y x = false ∧ x ≠ y := by
  unfold prefB at h ⊢
  split at h
  · next hc => exact ⟨by rw [if_pos ⟨hc.1, fun e => hc.2 e.symm⟩]; exact prefL_anti x y hc.2 zs h, hc.2⟩
  · cases h

theorem prefL_alt (x y : Int) (hxy : x ≠ y) : ∀ zs : List Int, prefL zs x y = (hasB zs x && !prefL zs y x)
  | [] => rfl
  | z :: t => by
    have ih := prefL_alt x y hxy t
    by_cases hx : z = x
    · have hy : z ≠ y := by rw [hx]; exact hxy
      rw [prefL, if_pos hx, prefL, if_neg hy, if_pos hx]
      simp [hasB, hx]
    · by_cases hy : z = y
      · rw [prefL, if_neg hx, if_pos hy, prefL, if_pos hy]
        simp
      · rw [prefL, if_neg hx, if_neg hy, prefL, if_neg hy, if_neg hx, ih]
        have e : hasB (z :: t) x = hasB t x := by
          unfold hasB
          rw [List.contains_cons]
          have : (x == z) = false := by simpa using fun e => hx e.symm
          rw [this, Bool.false_or]
        rw [e]

theorem prefL_map {f : Int → Int} (hf : ∀ a b, f a = f b → a = b) (x y : Int) : ∀ zs : List Int, prefL (zs.map f) (f x) (f y) = prefL zs x y
  | [] => rfl
  | z :: t => by
    have ih := prefL_map hf x y t
    rw [List.map_cons, prefL, prefL, ih]
    by_cases hx : z = x
    · rw [if_pos hx, if_pos (by rw [hx])]
    · rw [if_neg hx, if_neg (fun e => hx (hf _ _ e))]
      by_cases hy : z = y
      · rw [if_pos hy, if_pos (by rw [hy])]
      · rw [if_neg hy, if_neg (fun e => hy (hf _ _ e))]
theorem prefL_named : ∀ {zs : List Int} {x y : Int}, prefL zs x y = true → x ∈ zs
  | [], x, y, h => by cases h
  | z :: t, x, y, h => by
    unfold prefL at h
    by_cases hx : z = x
    · simp [hx]
    · rw [if_neg hx] at h
      by_cases hy : z = y
      · rw [if_pos hy] at h; cases h
      · rw [if_neg hy] at h
        simp [prefL_named h]

end Go.Proofs.Ytojfpnjnbpeniab

namespace Go.Proofs.Ytojfpnjnbpeniab

/-! ### Whom one reaches. -/
def stageB (R : Nat → Nat → Bool) (k : Nat) : Nat → Nat → Bool := fun x y => R x y || (R x k && R k y)
theorem stageB_row (R : Nat → Nat → Bool) (k y : Nat) : stageB R k k y = R k y := by
  unfold stageB; cases R k y <;> cases R k k <;> rfl
theorem stageB_col (R : Nat → Nat → Bool) (k x : Nat) : stageB R k x k = R x k := by
  unfold stageB; cases R x k <;> cases R k k <;> rfl
def reachTo (R : Nat → Nat → Bool) : Nat → Nat → Nat → Bool
  | 0 => R
  | k + 1 => stageB (reachTo R k) k
theorem reachTo_zero (R : Nat → Nat → Bool) : reachTo R 0 = R := rfl
theorem reachTo_succ (R : Nat → Nat → Bool) (k : Nat) : reachTo R (k + 1) = stageB (reachTo R k) k := rfl
theorem reach_step {R : Nat → Nat → Bool} {x y : Nat} (h : R x y = true) : ∀ k, reachTo R k x y = true
  | 0 => h
  | k + 1 => by rw [reachTo_succ]; unfold stageB; rw [reach_step h k]; rfl
theorem stageB_iff (R : Nat → Nat → Bool) (k x y : Nat) : stageB R k x y = true ↔ R x y = true ∨ (R x k = true ∧ R k y = true) := by
  unfold stageB; simp
/-- Steps are put together. -/
theorem reach_trans {R : Nat → Nat → Bool} : ∀ (k j : Nat), j < k → ∀ x y, reachTo R k x j = true → reachTo R k j y = true → reachTo R k x y = true
  | 0, j, hj, _, _, _, _ => by omega
  | k + 1, j, hj, x, y, h1, h2 => by
    rw [reachTo_succ] at h1 h2 ⊢
    by_cases e : j = k
    · subst e
      rw [stageB_col] at h1
      rw [stageB_row] at h2
      exact (stageB_iff _ _ _ _).2 (.inr ⟨h1, h2⟩)
    · have ih := reach_trans (R := R) k j (by omega)
      rcases (stageB_iff _ _ _ _).1 h1 with a | ⟨a, b⟩
      · rcases (stageB_iff _ _ _ _).1 h2 with c | ⟨c, d⟩
        · exact (stageB_iff _ _ _ _).2 (.inl (ih x y a c))
        · exact (stageB_iff _ _ _ _).2 (.inr ⟨ih x k a c, d⟩)
      · rcases (stageB_iff _ _ _ _).1 h2 with c | ⟨c, d⟩
        · exact (stageB_iff _ _ _ _).2 (.inr ⟨a, ih k y b c⟩)
        · exact (stageB_iff _ _ _ _).2 (.inr ⟨a, d⟩)
/-- The last step of a way. -/
theorem reach_last {R : Nat → Nat → Bool} {n : Nat} : ∀ k, k ≤ n → ∀ x y, x < n → x ≠ y → reachTo R k x y = true → ∃ j, j < n ∧ j ≠ y ∧ R j y = true
  | 0, _, x, y, hx, hxy, h => ⟨x, hx, hxy, h⟩
  | k + 1, hk, x, y, hx, hxy, h => by
    rw [reachTo_succ] at h
    rcases (stageB_iff _ _ _ _).1 h with a | ⟨a, b⟩
    · exact reach_last k (by omega) x y hx hxy a
    · by_cases e : k = y
      · subst e; exact reach_last k (by omega) x k hx hxy a
      · exact reach_last k (by omega) k y (by omega) e b

/-- Who is not beaten by whom. -/
def atLeast (m : Nat → Nat → Int) (x y : Nat) : Bool := decide (m y x ≤ m x y)
def reachL (m : Nat → Nat → Int) (n : Nat) : Nat → Nat → Bool := reachTo (atLeast m) n
/-- x is one of the top. -/
def IsTop (m : Nat → Nat → Int) (n x : Nat) : Prop := ∀ y, y < n → reachL m n x y = true
theorem reach_of {m : Nat → Nat → Int} {n x y : Nat} (h : m y x ≤ m x y) : reachL m n x y = true := reach_step (by unfold atLeast; exact decide_eq_true h) n
theorem reachL_trans {m : Nat → Nat → Int} {n x j y : Nat} (hj : j < n) (h1 : reachL m n x j = true) (h2 : reachL m n j y = true) : reachL m n x y = true := reach_trans n j hj x y h1 h2
/-- **Each one of the top is preferred to all others.** -/
theorem top_beats {m : Nat → Nat → Int} {n x y : Nat} (hx : x < n) (h : IsTop m n x) (hy : ¬ IsTop m n y) : m y x < m x y := by
  rcases Int.lt_or_le (m y x) (m x y) with g | g
  · exact g
  · exact absurd (fun z hz => reachL_trans hx (reach_of g) (h z hz)) hy
/-- **The top is as small as possible.** -/
theorem top_least {m : Nat → Nat → Int} {n i k : Nat} (hi : i < n) (h : IsTop m n i) (hk : k < n) (hki : k ≠ i) (h2 : IsTop m n k) : ∃ j, j < n ∧ j ≠ i ∧ IsTop m n j ∧ m i j ≤ m j i := by
  obtain ⟨j, hj, hji, hr⟩ := reach_last (R := atLeast m) (n := n) n (Nat.le_refl _) k i hk hki (h2 i hi)
  have hr' : m i j ≤ m j i := of_decide_eq_true hr
  exact ⟨j, hj, hji, fun z hz => reachL_trans hi (reach_of hr') (h z hz), hr'⟩
/-- There is a top. -/
theorem top_some (m : Nat → Nat → Int) {n : Nat} (hn : 0 < n) : ∃ x, x < n ∧ IsTop m n x := by
  have key : ∀ k, k < n → ∃ x, x < n ∧ ∀ y, y ≤ k → reachL m n x y = true := by
    intro k
    induction k with
    | zero => intro _; exact ⟨0, hn, fun y hy => by obtain rfl : y = 0 := by omega
                                                    exact reach_of (Int.le_refl _)⟩
    | succ k ih =>
      intro hk
      obtain ⟨x, hx, h⟩ := ih (by omega)
      rcases Int.lt_or_le (m x (k + 1)) (m (k + 1) x) with g | g
      · refine ⟨k + 1, hk, fun y hy => ?_⟩
        by_cases e : y = k + 1
        · subst e; exact reach_of (Int.le_refl _)
        · exact reachL_trans hx (reach_of (Int.le_of_lt g)) (h y (by omega))
      · refine ⟨x, hx, fun y hy => ?_⟩
        by_cases e : y = k + 1
        · subst e; exact reach_of g
        · exact h y (by omega)
  obtain ⟨x, hx, h⟩ := key (n - 1) (by omega)
  exact ⟨x, hx, fun y hy => h y (by omega)⟩
/-- Who is preferred to each other one. -/
def Wins (m : Nat → Nat → Int) (n w : Nat) : Prop := ∀ y, y < n → y ≠ w → m y w < m w y
theorem wins_one {m : Nat → Nat → Int} {n v w : Nat} (hv : v < n) (hw : w < n) (h1 : Wins m n v) (h2 : Wins m n w) : v = w := by
  rcases Nat.lt_trichotomy v w with g | g | g
  · have a := h1 w hw (by omega); have b := h2 v hv (by omega); omega
  · exact g
  · have a := h1 w hw (by omega); have b := h2 v hv (by omega); omega
theorem wins_top {m : Nat → Nat → Int} {n w : Nat} (hw : w < n) (h : Wins m n w) {x : Nat} (hx : x < n) : IsTop m n x ↔ x = w := by
  constructor
  · intro ht
    by_cases e : x = w
    · exact e
    · obtain ⟨j, hj, hjw, hr⟩ := reach_last (R := atLeast m) (n := n) n (Nat.le_refl _) x w hx e (ht w hw)
      have hr' : m w j ≤ m j w := of_decide_eq_true hr
      have := h j hj hjw
      omega
  · rintro rfl y hy
    by_cases e : y = x
    · subst e; exact reach_of (Int.le_refl _)
    · exact reach_of (Int.le_of_lt (h y hy e))

/-! ### The strongest paths. -/
def stageI (M : Nat → Nat → Int) (k : Nat) : Nat → Nat → Int := fun x y => if x = y then M x y else max (M x y) (min (M x k) (M k y))
theorem stageI_row (M : Nat → Nat → Int) (k y : Nat) : stageI M k k y = M k y := by unfold stageI; split <;> omega
theorem stageI_col (M : Nat → Nat → Int) (k x : Nat) : stageI M k x k = M x k := by unfold stageI; split <;> omega
theorem stageI_diag (M : Nat → Nat → Int) (k x : Nat) : stageI M k x x = M x x := by unfold stageI; rw [if_pos rfl]
theorem stageI_ne (M : Nat → Nat → Int) (k : Nat) {x y : Nat} (h : x ≠ y) : stageI M k x y = max (M x y) (min (M x k) (M k y)) := by unfold stageI; rw [if_neg h]
theorem stageI_up (M : Nat → Nat → Int) (k x y : Nat) : M x y ≤ stageI M k x y := by unfold stageI; split <;> omega
/-- The table of steps. -/
def steps (m : Nat → Nat → Int) : Nat → Nat → Int := fun x y => if m y x < m x y then m x y else 0
def pathTo (m : Nat → Nat → Int) : Nat → Nat → Nat → Int
  | 0 => steps m
  | k + 1 => stageI (pathTo m k) k
theorem pathTo_succ (m : Nat → Nat → Int) (k : Nat) : pathTo m (k + 1) = stageI (pathTo m k) k := rfl
theorem path_diag (m : Nat → Nat → Int) (x : Nat) : ∀ k, pathTo m k x x = 0
  | 0 => by show steps m x x = 0; unfold steps; rw [if_neg (by omega)]
  | k + 1 => by rw [pathTo_succ, stageI_diag, path_diag m x k]
theorem path_low {m : Nat → Nat → Int} (hm : ∀ x y, 0 ≤ m x y) (x y : Nat) : ∀ k, 0 ≤ pathTo m k x y
  | 0 => by show 0 ≤ steps m x y; unfold steps; have := hm x y; split <;> omega
  | k + 1 => by have := stageI_up (pathTo m k) k x y; have := path_low hm x y k; rw [pathTo_succ]; omega
theorem path_step {m : Nat → Nat → Int} {x y : Nat} (h : m y x < m x y) : ∀ k, m x y ≤ pathTo m k x y
  | 0 => by show m x y ≤ steps m x y; unfold steps; rw [if_pos h]; exact Int.le_refl _
  | k + 1 => by have := stageI_up (pathTo m k) k x y; have := path_step h k; rw [pathTo_succ]; omega
/-- **A path is as strong as its weakest step.** -/
theorem path_trans {m : Nat → Nat → Int} : ∀ (k j : Nat), j < k → ∀ x y, x ≠ y → j ≠ x → j ≠ y → min (pathTo m k x j) (pathTo m k j y) ≤ pathTo m k x y
  | 0, j, hj, _, _, _, _, _ => by omega
  | k + 1, j, hj, x, y, hxy, hjx, hjy => by
    have ih := path_trans (m := m) k
    rw [pathTo_succ]
    generalize pathTo m k = M at ih
    rw [stageI_ne M k hxy, stageI_ne M k (Ne.symm hjx), stageI_ne M k hjy]
    by_cases e : j = k
    · subst e; omega
    · have a := ih j (by omega) x y hxy hjx hjy
      by_cases exk : x = k
      · subst exk
        omega
      · have b := ih j (by omega) x k exk hjx e
        by_cases eyk : y = k
        · subst eyk; omega
        · have c := ih j (by omega) k y (fun g => eyk g.symm) e hjy
          omega
/-- **A path has steps.** -/
theorem path_first {m : Nat → Nat → Int} (hm : ∀ x y, 0 ≤ m x y) {n : Nat} : ∀ k, k ≤ n → ∀ x y, x ≠ y → pathTo m k x y = 0 ∨ (m y x < m x y ∧ m x y = pathTo m k x y) ∨ ∃ j, j < n ∧ j ≠ x ∧ j ≠ y ∧ m j x < m x j ∧ pathTo m k x y ≤ m x j ∧ pathTo m k x y ≤ pathTo m k j y
  | 0, _, x, y, _ => by
    by_cases h : m y x < m x y
    · exact .inr (.inl ⟨h, by show m x y = steps m x y; unfold steps; rw [if_pos h]⟩)
    · exact .inl (by show steps m x y = 0; unfold steps; rw [if_neg h])
  | k + 1, hk, x, y, hxy => by
    have ih := path_first hm (n := n) k (by omega)
    have hd := fun z => path_diag m z k
    have hl := fun x y => path_low hm x y k
    have hs := fun {x y : Nat} (h : m y x < m x y) => path_step h k
    rw [pathTo_succ]
    generalize pathTo m k = M at ih hd hl hs
    have hup := stageI_up M k
    by_cases h : min (M x k) (M k y) ≤ M x y
    · have e : stageI M k x y = M x y := by rw [stageI_ne M k hxy]; omega
      rw [e]
      rcases ih x y hxy with a | ⟨a, b⟩ | ⟨j, h1, h2, h3, h4, h5, h6⟩
      · exact .inl a
      · exact .inr (.inl ⟨a, b⟩)
      · exact .inr (.inr ⟨j, h1, h2, h3, h4, h5, by have := hup j y; omega⟩)
    · have e : stageI M k x y = min (M x k) (M k y) := by rw [stageI_ne M k hxy]; omega
      have h0 := hl x y
      have hxk : x ≠ k := by rintro rfl; have := hd x; omega
      have hky : k ≠ y := by rintro rfl; have := hd k; omega
      rw [e]
      right; right
      rcases ih x k hxk with a | ⟨a, b⟩ | ⟨j, h1, h2, h3, h4, h5, h6⟩
      · omega
      · exact ⟨k, by omega, hxk.symm, hky, a, by omega, by have := hup k y; omega⟩
      · by_cases ejy : j = y
        · subst ejy
          have := hs h4
          omega
        · refine ⟨j, h1, h2, ejy, h4, by omega, ?_⟩
          have : stageI M k j y = max (M j y) (min (M j k) (M k y)) := stageI_ne M k ejy
          omega
def pathL (m : Nat → Nat → Int) (n : Nat) : Nat → Nat → Int := pathTo m n
/-- x is one of the best. -/
def IsBest (m : Nat → Nat → Int) (n x : Nat) : Prop := ∀ y, y < n → pathL m n y x ≤ pathL m n x y
/-- Nobody comes back into the top. -/
theorem path_none {m : Nat → Nat → Int} (hm : ∀ x y, 0 ≤ m x y) {T : Nat → Prop} {n : Nat} (hT : ∀ x y, x < n → y < n → ¬ T x → T y → m x y < m y x) : ∀ k, k ≤ n → ∀ x y, x < n → y < n → ¬ T x → T y → pathTo m k x y = 0
  | 0, _, x, y, hx, hy, h1, h2 => by
    show steps m x y = 0
    unfold steps
    rw [if_neg (by have := hT x y hx hy h1 h2; omega)]
  | k + 1, hk, x, y, hx, hy, h1, h2 => by
    have ih := path_none hm hT k (by omega)
    have hl := fun x y => path_low hm x y k
    have hxy : x ≠ y := fun e => h1 (e ▸ h2)
    rw [pathTo_succ, stageI_ne _ _ hxy, ih x y hx hy h1 h2]
    have a := hl x k
    have b := hl k y
    rcases Classical.em (T k) with g | g
    · have := ih x k hx (by omega) h1 g; omega
    · have := ih k y (by omega) hy g h2; omega
/-- **The best ones are some of the top.** -/
theorem best_top {m : Nat → Nat → Int} (hm : ∀ x y, 0 ≤ m x y) {n x : Nat} (hx : x < n) (h : IsBest m n x) : IsTop m n x := by
  rcases Classical.em (IsTop m n x) with g | g
  · exact g
  · obtain ⟨y, hy, ht⟩ := top_some m (n := n) (by omega)
    have h1 := path_none hm (T := IsTop m n) (n := n) (fun a b ha hb h1 h2 => top_beats hb h2 h1) n (Nat.le_refl _) x y hx hy g ht
    have h2 := path_step (top_beats hy ht g) n
    have h3 := h y hy
    have h4 := hm x y
    have h5 := top_beats hy ht g
    unfold pathL at h3
    omega
/-- **A winner of pairs is the best one alone.** -/
theorem wins_best {m : Nat → Nat → Int} (hm : ∀ x y, 0 ≤ m x y) {n w : Nat} (hw : w < n) (h : Wins m n w) {x : Nat} (hx : x < n) : IsBest m n x ↔ x = w := by
  constructor
  · intro hb
    exact (wins_top hw h hx).1 (best_top hm hx hb)
  · rintro rfl y hy
    by_cases e : y = x
    · subst e; exact Int.le_refl _
    · have h1 := path_none hm (T := fun z => z = x) (n := n) (fun a b ha hb h1 h2 => by subst h2; exact h a ha h1) n (Nat.le_refl _) y x hy hx e rfl
      have h2 := path_low hm x y n
      unfold pathL
      omega

end Go.Proofs.Ytojfpnjnbpeniab

namespace Go.Proofs.Ytojfpnjnbpeniab

/-- Whether a text prefers x to y. -/
def prefF (x y : Nat) (t : ByteArray) : Int := if prefB (parseL t) (x : Int) (y : Int) = true then 1 else 0
def pairF (ps : List Pl) (x y : Nat) : Int := wsum (prefF x y) ps
theorem prefF_low (x y : Nat) (t : ByteArray) : 0 ≤ prefF x y t := by unfold prefF; split <;> omega
theorem prefF_self (x : Nat) (t : ByteArray) : prefF x x t = 0 := by
  unfold prefF prefB
  rw [if_neg]
  split
  · next h => exact absurd rfl h.2
  · simp
theorem prefF_two (x y : Nat) (t : ByteArray) : prefF x y t + prefF y x t ≤ 1 := by
  unfold prefF
  by_cases h : prefB (parseL t) (x : Int) (y : Int) = true
  · rw [if_pos h, if_neg (by rw [(prefB_anti h).1]; simp)]; omega
  · rw [if_neg h]; split <;> omega
/-- **A ballot prefers one of two, or none.** -/
theorem pairF_low {ps : List Pl} (hp : ∀ p ∈ ps, 1 ≤ p.2) (x y : Nat) : 0 ≤ pairF ps x y := wsum_nonneg (fun _ _ => prefF_low _ _ _) hp
theorem pairF_self (ps : List Pl) (x : Nat) : pairF ps x x = 0 := by
  rw [pairF, ← wsum_zero ps]
  exact wsum_congr (fun p _ => prefF_self x p.1)
theorem pairF_two {ps : List Pl} (hp : ∀ p ∈ ps, 1 ≤ p.2) (x y : Nat) : pairF ps x y + pairF ps y x ≤ sumL ps := by
  rw [pairF, pairF, ← wsum_add]
  exact wsum_most (fun p _ => prefF_two x y p.1) hp
/-- **Counts of parts add up.** -/
theorem pairF_parts (a b : List Pl) (x y : Nat) : pairF (a ++ b) x y = pairF a x y + pairF b x y := wsum_app _ _ _
theorem pairF_merge (a b : List Pl) (x y : Nat) : pairF (mergeL a b) x y = pairF a x y + pairF b x y := wsum_merge _ _ _
theorem pairF_snoc (a : List Pl) (p : Pl) (x y : Nat) : pairF (a ++ [p]) x y = pairF a x y + (if prefB (parseL p.1) (x : Int) (y : Int) = true then p.2 else 0) := by
  rw [pairF, wsum_snoc, pairF, prefF]
  split
  · rw [Int.one_mul]
  · rw [Int.zero_mul]
theorem pairF_turn {ps : List Pl} {x y : Int} (hx : 0 ≤ x ∧ x ≤ 4) (hy : 0 ≤ y ∧ y ≤ 4) (hv : ∀ p ∈ ps, validB (nums p.1) 5 = true) (a b : Nat) : pairF (turnPs x y ps) (swapC x y (a : Int)).toNat (swapC x y (b : Int)).toNat = pairF ps a b := by
  rw [pairF, wsum_turn]
  refine wsum_congr (fun p hp => ?_)
  have h5 := hv p hp
  have ea := Int.toNat_of_nonneg (swapC_low hx.1 hy.1 (Int.natCast_nonneg a))
  have eb := Int.toNat_of_nonneg (swapC_low hx.1 hy.1 (Int.natCast_nonneg b))
  have h6 := turnB_valid hx hy h5
  unfold prefF prefB
  rw [parse_turn hx hy h5, ea, eb, parseL_ok h5, h5, h6]
  have e1 : prefL (turnB x y (nums p.1)) (swapC x y (a : Int)) (swapC x y (b : Int)) = prefL (nums p.1) (a : Int) (b : Int) := prefL_map (fun u v => swapC_inj) _ _ _
  rw [e1]
  by_cases e : (a : Int) = (b : Int)
  · simp [e]
  · have e2 : ¬ swapC x y (a : Int) = swapC x y (b : Int) := fun g => e (swapC_inj g)
    simp only [ne_eq, e, e2, not_false_eq_true, and_self, if_true]
/-- **Candidates are treated alike.** -/
theorem wins_turn {ps : List Pl} {x y : Int} {n : Nat} (hn : n ≤ 5) (hx : 0 ≤ x ∧ x < (n : Int)) (hy : 0 ≤ y ∧ y < (n : Int)) (hv : ∀ p ∈ ps, validB (nums p.1) 5 = true) {w : Nat} (h : Wins (pairF ps) n w) : Wins (pairF (turnPs x y ps)) n (swapC x y (w : Int)).toNat := by
  intro z hz hne
  have hs0 := swapC_low hx.1 hy.1 (Int.natCast_nonneg z)
  have hs1 := swapC_high hx.2 hy.2 (show (z : Int) < (n : Int) by omega)
  have hw0 := swapC_low hx.1 hy.1 (Int.natCast_nonneg w)
  have e : (swapC x y (((swapC x y (z : Int)).toNat : Nat) : Int)).toNat = z := by rw [Int.toNat_of_nonneg hs0, swapC_twice, Int.toNat_natCast]
  have h1 := pairF_turn (ps := ps) (x := x) (y := y) (by omega) (by omega) hv (swapC x y (z : Int)).toNat w
  have h2 := pairF_turn (ps := ps) (x := x) (y := y) (by omega) (by omega) hv w (swapC x y (z : Int)).toNat
  rw [e] at h1 h2
  rw [h1, h2]
  refine h _ (by omega) (fun g => hne ?_)
  have g2 : swapC x y (z : Int) = (w : Int) := by omega
  rw [← g2, swapC_twice, Int.toNat_natCast]

end Go.Proofs.Ytojfpnjnbpeniab
