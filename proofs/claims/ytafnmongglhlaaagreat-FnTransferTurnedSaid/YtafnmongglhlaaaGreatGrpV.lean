/-
  Runoffs, as lists: who has the least count, who has left before each round, when a runoff ends, who wins. Of no memory.
  Runoffs, as lists: a majority at once, two candidates exchanged, ballots that name nobody. Of no memory.
-/
import Derived.Test.YtafnmongglhlaaaGreatGrpU
namespace Go.Proofs.YtafnmongglhlaaaGreat

/-! ### Who leaves. -/
/-- The first of the first k who stay with the least count, or -1. -/
def lowTo (c : List Int) (L : List Bool) (k : Nat) : Int := (List.range k).foldl (fun (b : Int) (i : Nat) => if L[i]?.getD false = false ∧ (b < 0 ∨ c[i]?.getD 0 < c[b.toNat]?.getD 0) then (i : Int) else b) (-1)
theorem lowTo_zero (c : List Int) (L : List Bool) : lowTo c L 0 = -1 := rfl
theorem lowTo_succ (c : List Int) (L : List Bool) (k : Nat) : lowTo c L (k + 1) = if L[k]?.getD false = false ∧ (lowTo c L k < 0 ∨ c[k]?.getD 0 < c[(lowTo c L k).toNat]?.getD 0) then (k : Int) else lowTo c L k := by
  unfold lowTo
  rw [List.range_succ, List.foldl_append]
  rfl
theorem lowTo_spec (c : List Int) (L : List Bool) (k : Nat) : (lowTo c L k = -1 ∧ ∀ i, i < k → L[i]?.getD false = true) ∨ (0 ≤ lowTo c L k ∧ lowTo c L k < (k : Int) ∧ L[(lowTo c L k).toNat]?.getD false = false ∧ ∀ i, i < k → L[i]?.getD false = false → c[(lowTo c L k).toNat]?.getD 0 ≤ c[i]?.getD 0) := by
  induction k with
  | zero => exact .inl ⟨rfl, fun i hi => by omega⟩
  | succ k ih =>
    rw [lowTo_succ]
    by_cases h : L[k]?.getD false = false ∧ (lowTo c L k < 0 ∨ c[k]?.getD 0 < c[(lowTo c L k).toNat]?.getD 0)
    · rw [if_pos h]
      refine .inr ⟨by omega, by omega, by rw [Int.toNat_natCast]; exact h.1, fun i hi hL => ?_⟩
      rw [Int.toNat_natCast]
      by_cases e : i = k
      · subst e; exact Int.le_refl _
      · rcases ih with ⟨_, i2⟩ | ⟨i1, _, _, i4⟩
        · have := i2 i (by omega); rw [hL] at this; cases this
        · have := i4 i (by omega) hL
          omega
    · rw [if_neg h]
      rcases ih with ⟨i1, i2⟩ | ⟨i1, i2, i3, i4⟩
      · refine .inl ⟨i1, fun i hi => ?_⟩
        by_cases e : i = k
        · subst e
          cases hL : L[i]?.getD false
          · exact absurd ⟨hL, .inl (by omega)⟩ h
          · rfl
        · exact i2 i (by omega)
      · refine .inr ⟨i1, by omega, i3, fun i hi hL => ?_⟩
        by_cases e : i = k
        · subst e
          by_cases g : c[i]?.getD 0 < c[(lowTo c L i).toNat]?.getD 0
          · exact absurd ⟨hL, .inr g⟩ h
          · omega
        · exact i4 i (by omega) hL
/-- The last one in an order who stays and has as many as b, or b. -/
def lastW (c : List Int) (L : List Bool) : List Int → Int → Int
  | [], b => b
  | z :: t, b => lastW c L t (if L[z.toNat]?.getD false = false ∧ c[z.toNat]?.getD 0 = c[b.toNat]?.getD 0 then z else b)
theorem lastW_spec {c : List Int} {L : List Bool} {m : Int} : ∀ {l : List Int} {b : Int}, l.Nodup → c[b.toNat]?.getD 0 = m →
    (lastW c L l b = b ∧ ∀ z ∈ l, ¬ (L[z.toNat]?.getD false = false ∧ c[z.toNat]?.getD 0 = m)) ∨
    (lastW c L l b ∈ l ∧ (L[(lastW c L l b).toNat]?.getD false = false ∧ c[(lastW c L l b).toNat]?.getD 0 = m) ∧ ∀ u ∈ l, L[u.toNat]?.getD false = false → c[u.toNat]?.getD 0 = m → l.idxOf u ≤ l.idxOf (lastW c L l b))
  | [], b, _, _ => .inl ⟨rfl, fun z hz => by cases hz⟩
  | z :: t, b, hd, hb => by
    have hd' := List.nodup_cons.1 hd
    unfold lastW
    rw [hb]
    by_cases h : L[z.toNat]?.getD false = false ∧ c[z.toNat]?.getD 0 = m
    · rw [if_pos h]
      right
      rcases lastW_spec (l := t) (b := z) (L := L) hd'.2 h.2 with ⟨i1, i2⟩ | ⟨i1, i2, i3⟩
      · rw [i1]
        refine ⟨by simp, h, fun u hu h1 h2 => ?_⟩
        rcases List.mem_cons.1 hu with e | e
        · rw [e]; exact Nat.le_refl _
        · exact absurd ⟨h1, h2⟩ (i2 u e)
      · refine ⟨by simp [i1], i2, fun u hu h1 h2 => ?_⟩
        have hzr : ¬ z = lastW c L t z := fun e => hd'.1 (by rw [e]; exact i1)
        rw [List.idxOf_cons, List.idxOf_cons]
        simp only [beq_eq_false_iff_ne.2 hzr, cond_false]
        rcases List.mem_cons.1 hu with e | e
        · simp [e]
        · have hzu : ¬ z = u := fun g => hd'.1 (by rw [g]; exact e)
          have := i3 u e h1 h2
          simp only [beq_eq_false_iff_ne.2 hzu, cond_false]
          omega
    · rw [if_neg h]
      rcases lastW_spec (l := t) (b := b) (L := L) hd'.2 hb with ⟨i1, i2⟩ | ⟨i1, i2, i3⟩
      · refine .inl ⟨i1, fun u hu => ?_⟩
        rcases List.mem_cons.1 hu with e | e
        · rw [e]; exact h
        · exact i2 u e
      · refine .inr ⟨by simp [i1], i2, fun u hu h1 h2 => ?_⟩
        have hzr : ¬ z = lastW c L t b := fun e => hd'.1 (by rw [e]; exact i1)
        rw [List.idxOf_cons, List.idxOf_cons]
        simp only [beq_eq_false_iff_ne.2 hzr, cond_false]
        rcases List.mem_cons.1 hu with e | e
        · simp [e]
        · have hzu : ¬ z = u := fun g => hd'.1 (by rw [g]; exact e)
          have := i3 u e h1 h2
          simp only [beq_eq_false_iff_ne.2 hzu, cond_false]
          omega
/-- Who leaves. -/
def leastL (c : List Int) (L : List Bool) (lots : List Int) : Int := lastW c L lots (lowTo c L c.length)
/-- **k has the least count** of those who stay, and comes last in the lots among those who have as many. -/
def IsLow (c : List Int) (L : List Bool) (lots : List Int) (k : Int) : Prop :=
  k ∈ lots ∧ L[k.toNat]?.getD false = false ∧ ∀ i ∈ lots, L[i.toNat]?.getD false = false → c[k.toNat]?.getD 0 < c[i.toNat]?.getD 0 ∨ (c[k.toNat]?.getD 0 = c[i.toNat]?.getD 0 ∧ lots.idxOf i ≤ lots.idxOf k)
theorem low_one {c : List Int} {L : List Bool} {lots : List Int} {v w : Int} (hv : IsLow c L lots v) (hw : IsLow c L lots w) : v = w := by
  obtain ⟨v1, v2, v3⟩ := hv
  obtain ⟨w1, w2, w3⟩ := hw
  have a := v3 w w1 w2
  have b := w3 v v1 v2
  exact idxOf_inj v1 (by omega)
theorem low_is {c : List Int} {L : List Bool} {lots : List Int} (hl : lotsB lots = true) (hc : c.length = lots.length) (hs : ∃ i, i < lots.length ∧ L[i]?.getD false = false) : IsLow c L lots (leastL c L lots) := by
  have hm := (vB_mem hl).2.2
  obtain ⟨j, hj, hjL⟩ := hs
  rcases lowTo_spec c L c.length with ⟨_, h2⟩ | ⟨h1, h2, h3, h4⟩
  · have := h2 j (by omega); rw [hjL] at this; cases this
  · unfold leastL
    have hmem : lowTo c L c.length ∈ lots := by
      have := lots_mem hl (i := (lowTo c L c.length).toNat) (by omega)
      rwa [Int.toNat_of_nonneg h1] at this
    rcases lastW_spec (l := lots) (c := c) (L := L) (b := lowTo c L c.length) (vB_nodup hl) rfl with ⟨_, g2⟩ | ⟨g1, g2, g3⟩
    · exact absurd ⟨h3, rfl⟩ (g2 _ hmem)
    · refine ⟨g1, g2.1, fun i hi hL => ?_⟩
      have hi' := hm i hi
      have := h4 i.toNat (by omega) hL
      rw [g2.2]
      by_cases e : c[i.toNat]?.getD 0 = c[(lowTo c L c.length).toNat]?.getD 0
      · exact .inr ⟨e.symm, g3 i hi hL e⟩
      · exact .inl (by omega)
theorem low_turn {c c' : List Int} {L L' : List Bool} {lots : List Int} {w x y : Int} (hw : IsLow c L lots w) (hc : ∀ z ∈ lots, c'[(swapC x y z).toNat]?.getD 0 = c[z.toNat]?.getD 0) (hs : ∀ z ∈ lots, L'[(swapC x y z).toNat]?.getD false = L[z.toNat]?.getD false) : IsLow c' L' (turnB x y lots) (swapC x y w) := by
  obtain ⟨w1, w2, w3⟩ := hw
  refine ⟨List.mem_map.2 ⟨w, w1, rfl⟩, by rw [hs w w1]; exact w2, fun i hi hsi => ?_⟩
  obtain ⟨z, hz, rfl⟩ := List.mem_map.1 hi
  rw [hc z hz, hc w w1, idxOf_turn, idxOf_turn]
  exact w3 z hz (by rw [← hs z hz]; exact hsi)

/-! ### The rounds. -/
/-- How many stay. -/
def manyL (L : List Bool) : Nat := L.countP (fun b => !b)
theorem manyL_set : ∀ {L : List Bool} {k : Nat}, k < L.length → L[k]?.getD false = false → manyL (L.set k true) + 1 = manyL L
  | [], k, h, _ => by simp at h
  | b :: t, 0, _, h => by
    simp at h
    subst h
    simp [manyL]
  | b :: t, k + 1, h, h2 => by
    have ih := manyL_set (L := t) (k := k) (by simpa using h) (by simpa using h2)
    simp only [manyL, List.set_cons_succ, List.countP_cons] at ih ⊢
    omega
theorem manyL_some {L : List Bool} (h : 0 < manyL L) : ∃ i, i < L.length ∧ L[i]?.getD false = false := by
  obtain ⟨b, hb, h2⟩ := List.countP_pos_iff.1 h
  obtain ⟨i, hi, rfl⟩ := List.getElem_of_mem hb
  refine ⟨i, hi, ?_⟩
  simpa [hi] using h2
theorem manyL_none (n : Nat) : manyL (noneL n) = n := by
  induction n with
  | zero => rfl
  | succ n ih =>
    simp only [manyL, noneL, List.replicate_succ, List.countP_cons] at ih ⊢
    simp at ih ⊢
    exact ih
/-- Who has left before round i. -/
def leftAt (ps : List Pl) (lots : List Int) : Nat → List Bool
  | 0 => noneL lots.length
  | i + 1 => (leftAt ps lots i).set (leastL (countsL ps (leftAt ps lots i)) (leftAt ps lots i) lots).toNat true
def cAt (ps : List Pl) (lots : List Int) (i : Nat) : List Int := countsL ps (leftAt ps lots i)
def outAt (ps : List Pl) (lots : List Int) (i : Nat) : Int := leastL (cAt ps lots i) (leftAt ps lots i) lots
theorem leftAt_zero (ps : List Pl) (lots : List Int) : leftAt ps lots 0 = noneL lots.length := rfl
theorem leftAt_succ (ps : List Pl) (lots : List Int) (i : Nat) : leftAt ps lots (i + 1) = (leftAt ps lots i).set (outAt ps lots i).toNat true := rfl
theorem leftAt_length (ps : List Pl) (lots : List Int) (i : Nat) : (leftAt ps lots i).length = lots.length := by
  induction i with
  | zero => rw [leftAt_zero, noneL_length]
  | succ i ih => rw [leftAt_succ, List.length_set, ih]
theorem cAt_length (ps : List Pl) (lots : List Int) (i : Nat) : (cAt ps lots i).length = lots.length := by rw [cAt, countsL_length, leftAt_length]
theorem out_is_of {ps : List Pl} {lots : List Int} (hl : lotsB lots = true) {i : Nat} (h : 0 < manyL (leftAt ps lots i)) : IsLow (cAt ps lots i) (leftAt ps lots i) lots (outAt ps lots i) := by
  obtain ⟨j, hj, h2⟩ := manyL_some h
  exact low_is hl (cAt_length _ _ _) ⟨j, by rwa [leftAt_length] at hj, h2⟩
theorem manyAt {ps : List Pl} {lots : List Int} (hl : lotsB lots = true) {i : Nat} (h : i < lots.length) : manyL (leftAt ps lots i) + i = lots.length := by
  induction i with
  | zero => rw [leftAt_zero, manyL_none, Nat.add_zero]
  | succ i ih =>
    have ih := ih (by omega)
    have hk := out_is_of hl (ps := ps) (i := i) (by omega)
    have hr := (vB_mem hl).2.2 _ hk.1
    have := manyL_set (k := (outAt ps lots i).toNat) (L := leftAt ps lots i) (by rw [leftAt_length]; omega) hk.2.1
    rw [leftAt_succ]
    omega
theorem out_is {ps : List Pl} {lots : List Int} (hl : lotsB lots = true) {i : Nat} (h : i < lots.length) : IsLow (cAt ps lots i) (leftAt ps lots i) lots (outAt ps lots i) :=
  out_is_of hl (by have := manyAt hl (ps := ps) h; omega)
theorem out_range {ps : List Pl} {lots : List Int} (hl : lotsB lots = true) {i : Nat} (h : i < lots.length) : 0 ≤ outAt ps lots i ∧ outAt ps lots i < (lots.length : Int) := (vB_mem hl).2.2 _ (out_is hl h).1

/-- The greatest of some numbers, or 0. -/
def topI (c : List Int) : Int := c.foldl (fun b z => max b z) 0
theorem topI_snoc (c : List Int) (z : Int) : topI (c ++ [z]) = max (topI c) z := by simp [topI]
/-- A round is the last one. -/
def doneL (c : List Int) (L : List Bool) : Bool := decide (totI c < 2 * topI c) || decide (manyL L = 1)
def doneAt (ps : List Pl) (lots : List Int) (i : Nat) : Bool := doneL (cAt ps lots i) (leftAt ps lots i)
def endFrom (ps : List Pl) (lots : List Int) : Nat → Nat → Nat
  | 0, i => i
  | f + 1, i => if doneAt ps lots i = true then i else endFrom ps lots f (i + 1)
/-- The number of the last round. -/
def endL (ps : List Pl) (lots : List Int) : Nat := endFrom ps lots lots.length 0
theorem endFrom_spec {ps : List Pl} {lots : List Int} : ∀ (f i m : Nat), i ≤ m → m < i + f → doneAt ps lots m = true → i ≤ endFrom ps lots f i ∧ endFrom ps lots f i ≤ m ∧ doneAt ps lots (endFrom ps lots f i) = true ∧ ∀ j, i ≤ j → j < endFrom ps lots f i → doneAt ps lots j = false
  | 0, i, m, h1, h2, _ => by omega
  | f + 1, i, m, h1, h2, h3 => by
    unfold endFrom
    by_cases h : doneAt ps lots i = true
    · rw [if_pos h]
      exact ⟨Nat.le_refl _, h1, h, fun j hj hj2 => by omega⟩
    · rw [if_neg h]
      have hne : i ≠ m := fun e => h (by rw [e]; exact h3)
      obtain ⟨i1, i2, i3, i4⟩ := endFrom_spec (ps := ps) (lots := lots) f (i + 1) m (by omega) (by omega) h3
      refine ⟨by omega, i2, i3, fun j hj hj2 => ?_⟩
      by_cases e : j = i
      · subst e; simpa using h
      · exact i4 j (by omega) hj2
theorem done_last {ps : List Pl} {lots : List Int} (hl : lotsB lots = true) : doneAt ps lots (lots.length - 1) = true := by
  have hn := lotsB_len hl
  have := manyAt hl (ps := ps) (i := lots.length - 1) (by omega)
  simp [doneAt, doneL, show manyL (leftAt ps lots (lots.length - 1)) = 1 by omega]
theorem end_spec {ps : List Pl} {lots : List Int} (hl : lotsB lots = true) : endL ps lots < lots.length ∧ doneAt ps lots (endL ps lots) = true ∧ ∀ j, j < endL ps lots → doneAt ps lots j = false := by
  have hn := lotsB_len hl
  obtain ⟨_, h2, h3, h4⟩ := endFrom_spec (ps := ps) (lots := lots) lots.length 0 (lots.length - 1) (by omega) (by omega) (done_last hl)
  refine ⟨?_, h3, fun j hj => h4 j (by omega) hj⟩
  show endFrom ps lots lots.length 0 < lots.length
  omega
/-- **A runoff ends with a majority**, or one who is left. -/
theorem done_iff {ps : List Pl} {lots : List Int} (hl : lotsB lots = true) {i : Nat} (h : i < lots.length) : doneAt ps lots i = true ↔ totI (cAt ps lots i) < 2 * topI (cAt ps lots i) ∨ i = lots.length - 1 := by
  have := manyAt hl (ps := ps) h
  simp only [doneAt, doneL, Bool.or_eq_true, decide_eq_true_eq]
  constructor
  · rintro (g | g)
    · exact .inl g
    · exact .inr (by omega)
  · rintro (g | g)
    · exact .inl g
    · exact .inr (by omega)

/-- Who stays. -/
def stayL (L : List Bool) : List Bool := L.map (fun b => !b)
theorem stayL_at {L : List Bool} {i : Nat} (h : i < L.length) : (stayL L)[i]?.getD false = !(L[i]?.getD false) := by simp [stayL, h]
theorem stayL_none (n : Nat) : stayL (noneL n) = allL n := by simp [stayL, noneL, allL]
/-- The winner. -/
def runW (ps : List Pl) (lots : List Int) : Int := pickL lots (mostL (cAt ps lots (endL ps lots)) (stayL (leftAt ps lots (endL ps lots))))
theorem run_is {ps : List Pl} {lots : List Int} (hl : lotsB lots = true) (hp : ∀ p ∈ ps, 1 ≤ p.2) : IsWin (cAt ps lots (endL ps lots)) (stayL (leftAt ps lots (endL ps lots))) lots (runW ps lots) := by
  have he := (end_spec hl (ps := ps)).1
  have hm := manyAt hl (ps := ps) he
  obtain ⟨j, hj, h2⟩ := manyL_some (L := leftAt ps lots (endL ps lots)) (by omega)
  refine win_pick hl (cAt_length _ _ _) (fun i hi => ?_) ⟨j, by rw [cAt_length]; rwa [leftAt_length] at hj, by rw [stayL_at hj, h2]; rfl⟩
  rw [cAt_length] at hi
  exact counts_low (by rw [leftAt_length]; exact hi) hp
/-- Who has left stays away. -/
theorem left_stays {ps : List Pl} {lots : List Int} (hl : lotsB lots = true) {i j : Nat} (hij : i < j) (hj : j < lots.length) : (leftAt ps lots j)[(outAt ps lots i).toNat]?.getD false = true := by
  induction j with
  | zero => omega
  | succ j ih =>
    have hr := out_range hl (ps := ps) (i := j) (by omega)
    rw [leftAt_succ, set_at _ _ _ (by rw [leftAt_length]; omega)]
    by_cases e : (outAt ps lots i).toNat = (outAt ps lots j).toNat
    · rw [if_pos e]
    · rw [if_neg e]
      refine ih ?_ (by omega)
      rcases Nat.lt_or_ge i j with g | g
      · exact g
      · have : i = j := by omega
        subst this; exact absurd rfl e
/-- **The winner has never left.** -/
theorem run_in {ps : List Pl} {lots : List Int} (hl : lotsB lots = true) (hp : ∀ p ∈ ps, 1 ≤ p.2) {i : Nat} (hi : i < endL ps lots) : outAt ps lots i ≠ runW ps lots := by
  intro e
  have he := (end_spec hl (ps := ps)).1
  have hw := run_is hl hp
  have hr := (vB_mem hl).2.2 _ hw.1
  have h1 := left_stays hl (ps := ps) hi he
  have h2 := hw.2.1
  rw [stayL_at (by rw [leftAt_length]; omega), ← e, h1] at h2
  cases h2
theorem topI_of {c : List Int} {m : Int} (h0 : 0 ≤ m) (h : ∀ z ∈ c, z ≤ m) (hm : m = 0 ∨ m ∈ c) : topI c = m := by
  have key : ∀ (c : List Int) (b : Int), b ≤ m → (∀ z ∈ c, z ≤ m) → (b = m ∨ m ∈ c) → c.foldl (fun b z => max b z) b = m := by
    intro c
    induction c with
    | nil => intro b _ _ hm; rcases hm with e | e; exact e; cases e
    | cons z t ih =>
      intro b hb h hm
      have hz := h z (by simp)
      refine ih (max b z) (by omega) (fun u hu => h u (by simp [hu])) ?_
      rcases hm with e | e
      · exact .inl (by omega)
      · rcases List.mem_cons.1 e with g | g
        · exact .inl (by omega)
        · exact .inr g
  exact key c 0 h0 h (by rcases hm with e | e; exact .inl e.symm; exact .inr e)
/-- **The winner has most in the last round.** -/
theorem run_top {ps : List Pl} {lots : List Int} (hl : lotsB lots = true) (hp : ∀ p ∈ ps, 1 ≤ p.2) : topI (cAt ps lots (endL ps lots)) = (cAt ps lots (endL ps lots))[(runW ps lots).toNat]?.getD 0 := by
  have hw := run_is hl hp
  have hr := (vB_mem hl).2.2 _ hw.1
  have hlow : ∀ i, i < lots.length → 0 ≤ (cAt ps lots (endL ps lots))[i]?.getD 0 := fun i hi => counts_low (by rw [leftAt_length]; exact hi) hp
  refine topI_of (hlow _ (by omega)) (fun z hz => ?_) (.inr ?_)
  · obtain ⟨i, hi, rfl⟩ := List.getElem_of_mem hz
    rw [cAt_length] at hi
    have e : (cAt ps lots (endL ps lots))[i]?.getD 0 = (cAt ps lots (endL ps lots))[i] := by simp [cAt_length, hi]
    rw [← e]
    by_cases g : (leftAt ps lots (endL ps lots))[i]?.getD false = true
    · have : (cAt ps lots (endL ps lots))[i]?.getD 0 = 0 := counts_left (by rw [leftAt_length]; exact hi) g
      have := hlow (runW ps lots).toNat (by omega)
      omega
    · have := hw.2.2 (i : Int) (lots_mem hl hi) (by rw [Int.toNat_natCast, stayL_at (by rw [leftAt_length]; exact hi)]; simpa using g)
      rw [Int.toNat_natCast] at this
      omega
  · have hlt : (runW ps lots).toNat < (cAt ps lots (endL ps lots)).length := by rw [cAt_length]; omega
    have e : (cAt ps lots (endL ps lots))[(runW ps lots).toNat]?.getD 0 = (cAt ps lots (endL ps lots))[(runW ps lots).toNat] := by simp [hlt]
    rw [e]
    exact List.getElem_mem _

end Go.Proofs.YtafnmongglhlaaaGreat

namespace Go.Proofs.YtafnmongglhlaaaGreat

theorem topI_spec (c : List Int) : 0 ≤ topI c ∧ (∀ z ∈ c, z ≤ topI c) ∧ (topI c = 0 ∨ topI c ∈ c) := by
  have key : ∀ (c : List Int) (b : Int), b ≤ c.foldl (fun b z => max b z) b ∧ (∀ z ∈ c, z ≤ c.foldl (fun b z => max b z) b) ∧ (c.foldl (fun b z => max b z) b = b ∨ c.foldl (fun b z => max b z) b ∈ c) := by
    intro c
    induction c with
    | nil => intro b; exact ⟨Int.le_refl _, fun z hz => (by cases hz), .inl rfl⟩
    | cons z t ih =>
      intro b
      obtain ⟨i1, i2, i3⟩ := ih (max b z)
      rw [List.foldl_cons]
      refine ⟨by omega, fun u hu => ?_, ?_⟩
      · rcases List.mem_cons.1 hu with e | e
        · subst e; omega
        · exact i2 u e
      · rcases i3 with e | e
        · by_cases g : b ≤ z
          · right; rw [e, show max b z = z by omega]; simp
          · left; rw [e]; omega
        · exact .inr (by simp [e])
  exact key c 0
theorem topI_at (c : List Int) {i : Nat} (h : i < c.length) : c[i]?.getD 0 ≤ topI c := by
  refine (topI_spec c).2.1 _ ?_
  simp [h]
/-- **Who has a majority wins at once.** -/
theorem run_major {ps : List Pl} {lots : List Int} (hl : lotsB lots = true) {k : Nat} (hk : k < lots.length) (h : totI (plurC ps lots.length) < 2 * (plurC ps lots.length)[k]?.getD 0) : endL ps lots = 0 ∧ runW ps lots = winL ps lots := by
  have hn := lotsB_len hl
  have e0 : cAt ps lots 0 = plurC ps lots.length := rfl
  have ht := topI_at (plurC ps lots.length) (i := k) (by rw [plurC_length]; exact hk)
  have hd : doneAt ps lots 0 = true := (done_iff hl (by omega)).2 (.inl (by rw [e0]; omega))
  have he : endL ps lots = 0 := by
    have := (end_spec hl (ps := ps)).2.2 0
    cases g : endL ps lots with
    | zero => rfl
    | succ m => rw [g] at this; have := this (by omega); rw [hd] at this; cases this
  refine ⟨he, ?_⟩
  unfold runW winL
  rw [he, e0, leftAt_zero, stayL_none]

/-- What counts the same ends the same. -/
theorem leftAt_same {ps ps' : List Pl} {lots : List Int} (h : ∀ L, countsL ps' L = countsL ps L) (i : Nat) : leftAt ps' lots i = leftAt ps lots i := by
  induction i with
  | zero => rfl
  | succ i ih => rw [leftAt_succ, leftAt_succ]; unfold outAt cAt; rw [ih, h]
theorem run_same {ps ps' : List Pl} {lots : List Int} (h : ∀ L, countsL ps' L = countsL ps L) : runW ps' lots = runW ps lots := by
  have hc : ∀ i, cAt ps' lots i = cAt ps lots i := fun i => by unfold cAt; rw [leftAt_same h, h]
  have hd : ∀ i, doneAt ps' lots i = doneAt ps lots i := fun i => by unfold doneAt; rw [hc, leftAt_same h]
  have hf : ∀ f i, endFrom ps' lots f i = endFrom ps lots f i := by
    intro f
    induction f with
    | zero => intro i; rfl
    | succ f ih => intro i; unfold endFrom; rw [hd, ih]
  unfold runW endL
  rw [hf, hc, leftAt_same h]
/-- **A ballot that names nobody has no influence.** -/
theorem run_alone (ps : List Pl) (m : Int) (lots : List Int) : runW (putL ps ByteArray.empty m) lots = runW ps lots := by
  refine run_same (fun L => ?_)
  refine List.ext_getElem (by simp [countsL]) (fun i h1 h2 => ?_)
  simp only [countsL, List.getElem_map, List.getElem_range, wsum_put]
  have hp : parseL ByteArray.empty = [] := List.eq_nil_of_length_eq_zero (by
    cases hv : validB (nums ByteArray.empty) 5
    · rw [parseL_no hv]; rfl
    · rw [parseL_ok hv, nums_length]; rfl)
  have : oneF L i ByteArray.empty = 0 := by unfold oneF; rw [hp, firstL, if_neg (by omega)]
  rw [this, Int.zero_mul, Int.add_zero]

/-! ### Two candidates exchanged. -/
theorem lots_turn {lots : List Int} (hl : lotsB lots = true) {x y : Int} (hx : 0 ≤ x ∧ x < (lots.length : Int)) (hy : 0 ≤ y ∧ y < (lots.length : Int)) : lotsB (turnB x y lots) = true ∧ (turnB x y lots).length = lots.length := by
  have hn := lotsB_len hl
  have hm := (vB_mem hl).2.2
  have hlen : (turnB x y lots).length = lots.length := by simp [turnB]
  refine ⟨?_, hlen⟩
  unfold lotsB
  refine vB_of (by omega) (by omega) ?_ (fun z hz => ?_)
  · unfold turnB List.Nodup
    rw [List.pairwise_map]
    exact List.Pairwise.imp (fun {a b} hab e => hab (swapC_inj e)) (vB_nodup hl)
  · obtain ⟨u, hu, rfl⟩ := List.mem_map.1 hz
    have := hm u hu
    rw [hlen]
    exact ⟨swapC_low hx.1 hy.1 this.1, swapC_high hx.2 hy.2 this.2⟩
theorem swapC_in {x y n z : Int} (hx : 0 ≤ x ∧ x < n) (hy : 0 ≤ y ∧ y < n) : (0 ≤ swapC x y z ∧ swapC x y z < n) ↔ 0 ≤ z ∧ z < n := by
  constructor
  · intro h
    have h1 := swapC_low hx.1 hy.1 h.1
    have h2 := swapC_high hx.2 hy.2 h.2
    rw [swapC_twice] at h1 h2
    exact ⟨h1, h2⟩
  · intro h
    exact ⟨swapC_low hx.1 hy.1 h.1, swapC_high hx.2 hy.2 h.2⟩
/-- Flags of turned candidates. -/
def TurnedL (x y : Int) (L L' : List Bool) : Prop := ∀ z : Int, 0 ≤ z → z ≤ 4 → L'[(swapC x y z).toNat]?.getD false = L[z.toNat]?.getD false
theorem sum_turn {ps : List Pl} {L L' : List Bool} {x y : Int} (hx : 0 ≤ x ∧ x < (L.length : Int)) (hy : 0 ≤ y ∧ y < (L.length : Int)) (h5 : L.length ≤ 5) (hlen : L'.length = L.length) (hv : ∀ p ∈ ps, validB (nums p.1) 5 = true) (hL : TurnedL x y L L') : totI (countsL (turnPs x y ps) L') = totI (countsL ps L) := by
  rw [counts_sum, counts_sum, wsum_turn]
  refine wsum_congr (fun p hp => ?_)
  have h5' := hv p hp
  have hm := vB_mem h5'
  have e1 : firstL (parseL (turnT x y p.1)) L' = swapC x y (firstL (parseL p.1) L) := by
    rw [parse_turn (by omega) (by omega) h5']
    refine firstL_turn hx.1 hy.1 (fun z hz => ?_)
    rw [parseL_ok h5'] at hz
    have := hm.2.2 z hz
    exact hL z this.1 (by omega)
  unfold someF
  rw [e1, hlen]
  by_cases e : 0 ≤ firstL (parseL p.1) L ∧ firstL (parseL p.1) L < (L.length : Int)
  · rw [if_pos e, if_pos ((swapC_in hx hy).2 e)]
  · rw [if_neg e, if_neg (fun g => e ((swapC_in hx hy).1 g))]
theorem top_turn {c c' : List Int} {x y : Int} (hx : 0 ≤ x ∧ x < (c.length : Int)) (hy : 0 ≤ y ∧ y < (c.length : Int)) (hlen : c'.length = c.length) (h : ∀ k : Nat, k < c.length → c'[(swapC x y (k : Int)).toNat]?.getD 0 = c[k]?.getD 0) : topI c' = topI c := by
  obtain ⟨t1, t2, t3⟩ := topI_spec c
  refine topI_of t1 (fun z hz => ?_) ?_
  · obtain ⟨j, hj, rfl⟩ := List.getElem_of_mem hz
    have hs := (swapC_in (z := (j : Int)) hx hy).2 ⟨by omega, by omega⟩
    have hk := h (swapC x y (j : Int)).toNat (by omega)
    rw [Int.toNat_of_nonneg hs.1, swapC_twice, Int.toNat_natCast] at hk
    have e : c'[j]?.getD 0 = c'[j] := by simp [hj]
    rw [← e, hk]
    exact topI_at c (by omega)
  · rcases t3 with e | e
    · exact .inl e
    · right
      obtain ⟨k, hk, hke⟩ := List.getElem_of_mem e
      have hs := (swapC_in (z := (k : Int)) hx hy).2 ⟨by omega, by omega⟩
      have hk2 := h k hk
      have hlt : (swapC x y (k : Int)).toNat < c'.length := by omega
      have e1 : c[k]?.getD 0 = c[k] := by simp [hk]
      have e2 : c'[(swapC x y (k : Int)).toNat]?.getD 0 = c'[(swapC x y (k : Int)).toNat] := by simp [hlt]
      rw [← hke, ← e1, ← hk2, e2]
      exact List.getElem_mem _
theorem at_turn {ps : List Pl} {lots : List Int} (hl : lotsB lots = true) (hps : pilesB ps = true) {x y : Int} (hx : 0 ≤ x ∧ x < (lots.length : Int)) (hy : 0 ≤ y ∧ y < (lots.length : Int)) : ∀ i, i < lots.length → TurnedL x y (leftAt ps lots i) (leftAt (turnPs x y ps) (turnB x y lots) i) ∧
    (∀ k : Nat, k < lots.length → (cAt (turnPs x y ps) (turnB x y lots) i)[(swapC x y (k : Int)).toNat]?.getD 0 = (cAt ps lots i)[k]?.getD 0) ∧ outAt (turnPs x y ps) (turnB x y lots) i = swapC x y (outAt ps lots i) := by
  have hn := lotsB_len hl
  have hm := (vB_mem hl).2.2
  have hpp := pilesB_pos hps
  obtain ⟨hl', hlen⟩ := lots_turn hl hx hy
  have step : ∀ i, i < lots.length → TurnedL x y (leftAt ps lots i) (leftAt (turnPs x y ps) (turnB x y lots) i) →
      (∀ k : Nat, k < lots.length → (cAt (turnPs x y ps) (turnB x y lots) i)[(swapC x y (k : Int)).toNat]?.getD 0 = (cAt ps lots i)[k]?.getD 0) ∧ outAt (turnPs x y ps) (turnB x y lots) i = swapC x y (outAt ps lots i) := by
    intro i hi hT
    have hc : ∀ k : Nat, k < lots.length → (cAt (turnPs x y ps) (turnB x y lots) i)[(swapC x y (k : Int)).toNat]?.getD 0 = (cAt ps lots i)[k]?.getD 0 := fun k hk => by
      have hs := (swapC_in (z := (k : Int)) hx hy).2 ⟨by omega, by omega⟩
      exact counts_turn (by omega) (by omega) hpp.2.2.2.1 hT (by rw [leftAt_length]; exact hk) (by rw [leftAt_length, hlen]; omega)
    refine ⟨hc, low_one (out_is hl' (by omega)) (low_turn (out_is hl hi) (fun z hz => ?_) (fun z hz => ?_))⟩
    · have hz' := hm z hz
      have := hc z.toNat (by omega)
      rwa [Int.toNat_of_nonneg hz'.1] at this
    · have hz' := hm z hz
      exact hT z hz'.1 (by omega)
  intro i
  induction i with
  | zero =>
    intro hi
    have hT : TurnedL x y (leftAt ps lots 0) (leftAt (turnPs x y ps) (turnB x y lots) 0) := fun z _ _ => by
      rw [leftAt_zero, leftAt_zero, noneL_at, noneL_at]
    exact ⟨hT, step 0 hi hT⟩
  | succ i ih =>
    intro hi
    obtain ⟨i1, _, i3⟩ := ih (by omega)
    have ho := out_range hl (ps := ps) (i := i) (by omega)
    have hos := (swapC_in (z := outAt ps lots i) hx hy).2 ho
    have hT : TurnedL x y (leftAt ps lots (i + 1)) (leftAt (turnPs x y ps) (turnB x y lots) (i + 1)) := fun z h0 h4 => by
      have hz := swapC_low hx.1 hy.1 h0
      rw [leftAt_succ, leftAt_succ, i3, set_at _ _ _ (by rw [leftAt_length, hlen]; omega), set_at _ _ _ (by rw [leftAt_length]; omega)]
      by_cases e : z = outAt ps lots i
      · rw [if_pos (by rw [e]), if_pos (by rw [e])]
      · have e2 : swapC x y z ≠ swapC x y (outAt ps lots i) := fun g => e (swapC_inj g)
        rw [if_neg (by omega), if_neg (by omega)]
        exact i1 z h0 h4
    exact ⟨hT, step (i + 1) hi hT⟩
/-- **Candidates are treated alike.** -/
theorem run_turn {ps : List Pl} {lots : List Int} (hl : lotsB lots = true) (hps : pilesB ps = true) {x y : Int} (hx : 0 ≤ x ∧ x < (lots.length : Int)) (hy : 0 ≤ y ∧ y < (lots.length : Int)) : endL (turnPs x y ps) (turnB x y lots) = endL ps lots ∧ runW (turnPs x y ps) (turnB x y lots) = swapC x y (runW ps lots) := by
  have hn := lotsB_len hl
  have hm := (vB_mem hl).2.2
  have hpp := pilesB_pos hps
  obtain ⟨hl', hlen⟩ := lots_turn hl hx hy
  have hall := at_turn hl hps hx hy
  have hd : ∀ i, i < lots.length → doneAt (turnPs x y ps) (turnB x y lots) i = doneAt ps lots i := fun i hi => by
    obtain ⟨h1, h2, _⟩ := hall i hi
    have e1 : totI (cAt (turnPs x y ps) (turnB x y lots) i) = totI (cAt ps lots i) :=
      sum_turn (by rw [leftAt_length]; exact hx) (by rw [leftAt_length]; exact hy) (by rw [leftAt_length]; omega) (by rw [leftAt_length, leftAt_length, hlen]) hpp.2.2.2.1 h1
    have e2 : topI (cAt (turnPs x y ps) (turnB x y lots) i) = topI (cAt ps lots i) :=
      top_turn (by rw [cAt_length]; exact hx) (by rw [cAt_length]; exact hy) (by rw [cAt_length, cAt_length, hlen]) (fun k hk => h2 k (by rwa [cAt_length] at hk))
    have a := done_iff hl (ps := ps) hi
    have b := done_iff hl' (ps := turnPs x y ps) (i := i) (by omega)
    rw [e1, e2, hlen, ← a] at b
    cases g : doneAt ps lots i
    · cases g' : doneAt (turnPs x y ps) (turnB x y lots) i
      · rfl
      · have := b.1 g'; rw [g] at this; cases this
    · exact b.2 g
  obtain ⟨a1, a2, a3⟩ := end_spec hl (ps := ps)
  obtain ⟨b1, b2, b3⟩ := end_spec hl' (ps := turnPs x y ps)
  have he : endL (turnPs x y ps) (turnB x y lots) = endL ps lots := by
    rw [hlen] at b1
    rcases Nat.lt_trichotomy (endL (turnPs x y ps) (turnB x y lots)) (endL ps lots) with g | g | g
    · have := a3 _ g; rw [← hd _ b1, b2] at this; cases this
    · exact g
    · have := b3 _ g; rw [hd _ a1, a2] at this; cases this
  refine ⟨he, ?_⟩
  have hw' := run_is hl' (ps := turnPs x y ps) (turnPs_pos hpp.2.1)
  rw [he] at hw'
  obtain ⟨h1, h2, _⟩ := hall _ a1
  refine win_one hw' (win_turn (run_is hl hpp.2.1) (fun z hz => ?_) (fun z hz => ?_))
  · have hz' := hm z hz
    have := h2 z.toNat (by omega)
    rwa [Int.toNat_of_nonneg hz'.1] at this
  · have hz' := hm z hz
    have hs := (swapC_in hx hy).2 hz'
    rw [stayL_at (by rw [leftAt_length, hlen]; omega), stayL_at (by rw [leftAt_length]; omega), h1 z hz'.1 (by omega)]

end Go.Proofs.YtafnmongglhlaaaGreat
