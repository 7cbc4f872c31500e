/-
  The greatest of some counts, of several ones the one who comes first in the lots: who it is, that there is one alone, and with two candidates exchanged. Of no memory.
  Lots, step by step: what a seed draws of those that are left, what is told of arguments out of range, and that a part of lots is none. Of no memory.
  Fractions, as pairs: reduced ones, sums, products, the order. Of no memory.
  Fractions, as pairs: what the functions of chapter 5 return; the laws of their promises. Of no memory.
  Seats by divisors over lists: what is valid, who gets the next seat, what n rounds give, and the check. Of no memory.
-/
import Derived.Test.YtbcemgmfkddafaaGrp2
import Derived.Test.YtbcemgmfkddafaaGrp1
namespace Go.Proofs.Ytbcemgmfkddafaa

/-- The greatest of the first k counts of some, or -1. -/
def bestS (c : List Int) (s : List Bool) (k : Nat) : Int := (List.range k).foldl (fun (b : Int) (i : Nat) => if s[i]?.getD false = true then max b (c[i]?.getD 0) else b) (-1)
theorem bestS_zero (c : List Int) (s : List Bool) : bestS c s 0 = -1 := rfl
theorem bestS_succ (c : List Int) (s : List Bool) (k : Nat) : bestS c s (k + 1) = if s[k]?.getD false = true then max (bestS c s k) (c[k]?.getD 0) else bestS c s k := by
  simp [bestS, List.range_succ]
theorem bestS_ge {c : List Int} {s : List Bool} {k i : Nat} (h : i < k) (hs : s[i]?.getD false = true) : c[i]?.getD 0 ≤ bestS c s k := by
  induction k with
  | zero => omega
  | succ k ih =>
    rw [bestS_succ]
    by_cases e : i = k
    · subst e; rw [if_pos hs]; omega
    · have := ih (by omega)
      split <;> omega
theorem bestS_hit (c : List Int) (s : List Bool) (k : Nat) : bestS c s k = -1 ∨ ∃ i, i < k ∧ s[i]?.getD false = true ∧ c[i]?.getD 0 = bestS c s k := by
  induction k with
  | zero => exact .inl rfl
  | succ k ih =>
    rw [bestS_succ]
    by_cases hs : s[k]?.getD false = true
    · rw [if_pos hs]
      rcases ih with ih | ⟨i, hi, h1, h2⟩
      · by_cases g : c[k]?.getD 0 ≤ -1
        · left; omega
        · right; exact ⟨k, by omega, hs, by omega⟩
      · by_cases g : c[k]?.getD 0 ≤ bestS c s k
        · right; exact ⟨i, by omega, h1, by omega⟩
        · right; exact ⟨k, by omega, hs, by omega⟩
    · rw [if_neg hs]
      rcases ih with ih | ⟨i, hi, h1, h2⟩
      · exact .inl ih
      · exact .inr ⟨i, by omega, h1, h2⟩
/-- Who has the greatest of some counts. -/
def mostL (c : List Int) (s : List Bool) : List Bool := (List.range c.length).map fun i => s[i]?.getD false && (c[i]?.getD 0 == bestS c s c.length)
theorem mostL_length (c : List Int) (s : List Bool) : (mostL c s).length = c.length := by simp [mostL]
theorem mostL_at {c : List Int} {s : List Bool} {i : Nat} (h : i < c.length) : (mostL c s)[i]?.getD false = true ↔ s[i]?.getD false = true ∧ c[i]?.getD 0 = bestS c s c.length := by
  simp [mostL, h]

/-- The first one of some in an order. -/
theorem pickL_spec {l : List Int} {L : List Bool} (h : ∃ z ∈ l, L[z.toNat]?.getD false = true) : pickL l L ∈ l ∧ L[(pickL l L).toNat]?.getD false = true ∧ ∀ u ∈ l, L[u.toNat]?.getD false = true → l.idxOf (pickL l L) ≤ l.idxOf u := by
  induction l with
  | nil => obtain ⟨z, hz, _⟩ := h; cases hz
  | cons a t ih =>
    unfold pickL
    by_cases ha : L[a.toNat]?.getD false = true
    · rw [if_pos ha]
      exact ⟨by simp, ha, fun u _ _ => by simp [List.idxOf_cons]⟩
    · rw [if_neg ha]
      obtain ⟨z, hz, hzL⟩ := h
      have hz' : z ∈ t := by
        rcases List.mem_cons.1 hz with e | e
        · subst e; exact absurd hzL ha
        · exact e
      obtain ⟨i1, i2, i3⟩ := ih ⟨z, hz', hzL⟩
      refine ⟨by simp [i1], i2, fun u hu huL => ?_⟩
      have hau : ¬ a = u := fun e => ha (by rw [e]; exact huL)
      have hap : ¬ a = pickL t L := fun e => ha (by rw [e]; exact i2)
      have hu' : u ∈ t := by
        rcases List.mem_cons.1 hu with e | e
        · exact absurd e.symm hau
        · exact e
      have := i3 u hu' huL
      rw [List.idxOf_cons, List.idxOf_cons]
      simp only [beq_eq_false_iff_ne.2 hau, beq_eq_false_iff_ne.2 hap, cond_false]
      omega

/-- **w has the greatest of some counts**, and comes first in the lots among those who have as many. -/
def IsWin (c : List Int) (s : List Bool) (lots : List Int) (w : Int) : Prop :=
  w ∈ lots ∧ s[w.toNat]?.getD false = true ∧ ∀ i ∈ lots, s[i.toNat]?.getD false = true → c[i.toNat]?.getD 0 < c[w.toNat]?.getD 0 ∨ (c[i.toNat]?.getD 0 = c[w.toNat]?.getD 0 ∧ lots.idxOf w ≤ lots.idxOf i)
theorem idxOf_inj {l : List Int} {a b : Int} (ha : a ∈ l) (h : l.idxOf a = l.idxOf b) : a = b := by
  induction l with
  | nil => cases ha
  | cons z t ih =>
    rw [List.idxOf_cons, List.idxOf_cons] at h
    by_cases h1 : z = a
    · by_cases h2 : z = b
      · exact h1.symm.trans h2
      · simp only [beq_iff_eq.2 h1, beq_eq_false_iff_ne.2 h2, cond_true, cond_false] at h; omega
    · by_cases h2 : z = b
      · simp only [beq_eq_false_iff_ne.2 h1, beq_iff_eq.2 h2, cond_true, cond_false] at h; omega
      · simp only [beq_eq_false_iff_ne.2 h1, beq_eq_false_iff_ne.2 h2, cond_false] at h
        refine ih ?_ (by omega)
        rcases List.mem_cons.1 ha with e | e
        · exact absurd e.symm h1
        · exact e
/-- There is one alone. -/
theorem win_one {c : List Int} {s : List Bool} {lots : List Int} {v w : Int} (hv : IsWin c s lots v) (hw : IsWin c s lots w) : v = w := by
  obtain ⟨v1, v2, v3⟩ := hv
  obtain ⟨w1, w2, w3⟩ := hw
  have a := v3 w w1 w2
  have b := w3 v v1 v2
  exact idxOf_inj v1 (by omega)
theorem lots_mem {lots : List Int} (h : lotsB lots = true) {i : Nat} (hi : i < lots.length) : (i : Int) ∈ lots := by
  have hm := vB_mem h
  have hd := vB_nodup h
  by_cases e : (i : Int) ∈ lots
  · exact e
  · have hnd : ((i : Int) :: lots).Nodup := List.nodup_cons.2 ⟨e, hd⟩
    have := few_of lots.length ((i : Int) :: lots) hnd (fun z hz => by
      rcases List.mem_cons.1 hz with g | g
      · subst g; omega
      · exact hm.2.2 z g)
    simp at this
    omega
/-- **The pick is the one.** -/
theorem win_pick {c : List Int} {s : List Bool} {lots : List Int} (hl : lotsB lots = true) (hc : c.length = lots.length) (h0 : ∀ i, i < c.length → 0 ≤ c[i]?.getD 0) (hs : ∃ i, i < c.length ∧ s[i]?.getD false = true) : IsWin c s lots (pickL lots (mostL c s)) := by
  have hm := vB_mem hl
  have hN : ∀ z ∈ lots, z.toNat < c.length := fun z hz => by have := hm.2.2 z hz; omega
  obtain ⟨j, hj, hsj⟩ := hs
  have hb := bestS_hit c s c.length
  have hge := bestS_ge (c := c) hj hsj
  have h0j := h0 j hj
  rcases hb with hb | ⟨i, hi, h1, h2⟩
  · omega
  · obtain ⟨p1, p2, p3⟩ := pickL_spec (l := lots) (L := mostL c s) ⟨(i : Int), lots_mem hl (by omega), by rw [Int.toNat_natCast, mostL_at hi]; exact ⟨h1, h2⟩⟩
    have hp := (mostL_at (hN _ p1)).1 p2
    refine ⟨p1, hp.1, fun u hu hsu => ?_⟩
    have hg := bestS_ge (c := c) (hN u hu) hsu
    by_cases e : c[u.toNat]?.getD 0 = bestS c s c.length
    · exact .inr ⟨by omega, p3 u hu ((mostL_at (hN u hu)).2 ⟨hsu, e⟩)⟩
    · exact .inl (by omega)

/-- x comes before y. -/
def befL : List Int → Int → Int → Bool
  | [], _, _ => false
  | z :: t, x, y => if z = x ∨ z = y then decide (z = x) && decide (x ≠ y) else befL t x y
theorem befL_iff {l : List Int} {x y : Int} (hx : x ∈ l) : befL l x y = true ↔ l.idxOf x < l.idxOf y := by
  induction l with
  | nil => cases hx
  | cons z t ih =>
    unfold befL
    rw [List.idxOf_cons, List.idxOf_cons]
    by_cases h1 : z = x
    · by_cases h2 : z = y
      · simp [h1, h1.symm.trans h2]
      · rw [if_pos (.inl h1)]
        simp only [beq_iff_eq.2 h1, beq_eq_false_iff_ne.2 h2, cond_true, cond_false]
        simp [h1, show ¬ x = y from fun e => h2 (h1.trans e)]
    · have hx' : x ∈ t := by
        rcases List.mem_cons.1 hx with e | e
        · exact absurd e.symm h1
        · exact e
      by_cases h2 : z = y
      · rw [if_pos (.inr h2)]
        simp only [beq_eq_false_iff_ne.2 h1, beq_iff_eq.2 h2, cond_true, cond_false]
        simp [h1]
      · rw [if_neg (by rintro (e | e); exact h1 e; exact h2 e), ih hx']
        simp only [beq_eq_false_iff_ne.2 h1, beq_eq_false_iff_ne.2 h2, cond_false]
        omega
/-- **Nobody has more than the winner**; who has as many doesn't come before. -/
theorem win_most {c : List Int} {s : List Bool} {lots : List Int} {w : Int} (hw : IsWin c s lots w) {k : Int} (hk : k ∈ lots) (hs : s[k.toNat]?.getD false = true) : c[k.toNat]?.getD 0 ≤ c[w.toNat]?.getD 0 ∧ (c[k.toNat]?.getD 0 = c[w.toNat]?.getD 0 → befL lots k w = false) := by
  have := hw.2.2 k hk hs
  refine ⟨by omega, fun e => ?_⟩
  cases hb : befL lots k w
  · rfl
  · have := (befL_iff hk).1 hb
    omega

/-! ### Two candidates exchanged. -/
theorem swapC_inj {x y a b : Int} (h : swapC x y a = swapC x y b) : a = b := by
  have := congrArg (swapC x y) h
  rwa [swapC_twice, swapC_twice] at this
theorem idxOf_turn (x y : Int) (l : List Int) (z : Int) : (turnB x y l).idxOf (swapC x y z) = l.idxOf z := by
  unfold turnB
  induction l with
  | nil => rfl
  | cons a t ih =>
    rw [List.map_cons, List.idxOf_cons, List.idxOf_cons, ih]
    by_cases e : a = z
    · simp [e]
    · have : ¬ swapC x y a = swapC x y z := fun g => e (swapC_inj g)
      simp only [beq_eq_false_iff_ne.2 e, beq_eq_false_iff_ne.2 this]
/-- **Candidates are treated alike.** -/
theorem win_turn {c c' : List Int} {s s' : List Bool} {lots : List Int} {w x y : Int} (hw : IsWin c s lots w) (hc : ∀ z ∈ lots, c'[(swapC x y z).toNat]?.getD 0 = c[z.toNat]?.getD 0) (hs : ∀ z ∈ lots, s'[(swapC x y z).toNat]?.getD false = s[z.toNat]?.getD false) : IsWin c' s' (turnB x y lots) (swapC x y w) := by
  obtain ⟨w1, w2, w3⟩ := hw
  refine ⟨List.mem_map.2 ⟨w, w1, rfl⟩, by rw [hs w w1]; exact w2, fun i hi hsi => ?_⟩
  obtain ⟨z, hz, rfl⟩ := List.mem_map.1 hi
  rw [hc z hz, hc w w1, idxOf_turn, idxOf_turn]
  exact w3 z hz (by rw [← hs z hz]; exact hsi)

end Go.Proofs.Ytbcemgmfkddafaa

namespace Go.Proofs.Ytbcemgmfkddafaa

/-- The lots that a seed draws of those that are left. -/
def lotR (rest : List Int) (seed : Nat) : List Int := lotL rest.length rest seed
theorem lotR_nil (seed : Nat) : lotR [] seed = [] := rfl
theorem lotR_step {rest : List Int} {m : Nat} (hm : rest.length = m) (h : m ≠ 0) (seed : Nat) : lotR rest seed = rest[seed % m]?.getD 0 :: lotR (rest.eraseIdx (seed % m)) (seed / m) := by
  subst hm
  obtain ⟨n, hn⟩ : ∃ n, rest.length = n + 1 := ⟨rest.length - 1, by omega⟩
  have hk := Nat.mod_lt seed (show 0 < rest.length by omega)
  have he : (rest.eraseIdx (seed % rest.length)).length = n := by rw [List.length_eraseIdx, if_pos hk]; omega
  unfold lotR
  rw [he]
  conv => lhs; rw [hn]
  rw [lotL_step n rest seed h]
theorem lotR_all (n seed : Nat) : lotR (fromZero n) seed = lotsOf n seed := by unfold lotR lotsOf; rw [fromZero_length]
theorem erase_length {rest : List Int} {m k : Nat} (hm : rest.length = m) (h : k < m) : (rest.eraseIdx k).length = m - 1 := by rw [List.length_eraseIdx, hm, if_pos h]

/-- The number of candidates and the seed are in range. -/
def okLots (n seed : Int) : Bool := inB n 1 5 && inB seed 0 999
/-- What LotsOf returns. -/
def lotsI (n seed : Int) : List Int := if okLots n seed = true then lotsOf n.toNat seed.toNat else []
theorem okLots_of {n seed : Int} (h : okLots n seed = true) : (1 ≤ n ∧ n ≤ 5) ∧ 0 ≤ seed ∧ seed ≤ 999 := by simpa [okLots, inB] using h
theorem okLots_yes {n seed : Int} (h1 : 1 ≤ n) (h2 : n ≤ 5) (h3 : 0 ≤ seed) (h4 : seed ≤ 999) : okLots n seed = true := by simp [okLots, inB]; omega
theorem okLots_no {n seed : Int} (h : n < 1 ∨ 5 < n ∨ seed < 0 ∨ 999 < seed) : okLots n seed = false := by
  cases hk : okLots n seed
  · rfl
  · have := okLots_of hk; omega
theorem lotsI_yes {n seed : Int} (h : okLots n seed = true) : lotsI n seed = lotsOf n.toNat seed.toNat := by rw [lotsI, if_pos h]
theorem lotsI_no {n seed : Int} (h : okLots n seed = false) : lotsI n seed = [] := by rw [lotsI, h]; rfl
theorem lotsI_short (n seed : Int) : (lotsI n seed).length ≤ 5 := by
  cases h : okLots n seed
  · rw [lotsI_no h]; simp
  · have := okLots_of h
    rw [lotsI_yes h, lotsOf_length]; omega
theorem lotsI_length {n seed : Int} (h : okLots n seed = true) : ((lotsI n seed).length : Int) = n := by
  have := okLots_of h
  rw [lotsI_yes h, lotsOf_length]; omega
theorem lotsI_valid {n seed : Int} (h : okLots n seed = true) : lotsB (lotsI n seed) = true := by
  have := okLots_of h
  rw [lotsI_yes h]; exact lotsOf_valid (by omega) (by omega)
theorem lotsI_head {n seed : Int} (h : okLots n seed = true) : (lotsI n seed)[0]?.getD 0 = seed % n := by
  have := okLots_of h
  rw [lotsI_yes h, lotsOf_head (by omega), Int.natCast_emod, Int.toNat_of_nonneg (by omega), Int.toNat_of_nonneg (by omega)]

/-- The product of 1 to n. -/
def factI (n : Int) : Int := (factN n.toNat : Int)
/-- The product of the numbers up to i (those above 1). -/
theorem fact_small (k : Nat) (h : k ≤ 5) : factN k = [1, 1, 2, 6, 24, 120][k]?.getD 0 := by
  have e : k = 0 ∨ k = 1 ∨ k = 2 ∨ k = 3 ∨ k = 4 ∨ k = 5 := by omega
  rcases e with rfl | rfl | rfl | rfl | rfl | rfl <;> rfl
theorem lotsI_more {n seed : Int} (h : okLots n seed = true) (h2 : okLots n (seed + factI n) = true) : lotsI n (seed + factI n) = lotsI n seed := by
  have := okLots_of h
  rw [lotsI_yes h, lotsI_yes h2, show (seed + factI n).toNat = seed.toNat + factN n.toNat by unfold factI; omega, lotsOf_more]
/-- **Each order of two lots has a seed.** -/
theorem lotsI_swap {n seed : Int} (h : okLots n seed = true) (h2 : 2 ≤ n) : ∃ q : Nat, q < 120 ∧ lotsI n (q : Int) = (lotsI n seed)[1]?.getD 0 :: (lotsI n seed)[0]?.getD 0 :: (lotsI n seed).drop 2 := by
  have hh := okLots_of h
  obtain ⟨m, rfl⟩ := Int.eq_ofNat_of_zero_le (show 0 ≤ n by omega)
  obtain ⟨s, rfl⟩ := Int.eq_ofNat_of_zero_le (show 0 ≤ seed by omega)
  rw [lotsI_yes h, Int.toNat_natCast, Int.toNat_natCast, lotsOf_mod m s]
  have hf : 0 < factN m := by rw [fact_small m (by omega)]; have e : m = 2 ∨ m = 3 ∨ m = 4 ∨ m = 5 := by omega
                              rcases e with rfl | rfl | rfl | rfl <;> decide
  obtain ⟨q, hq, he⟩ := lots_swap_all m (by omega) (by omega) (s % factN m) (Nat.mod_lt _ hf)
  refine ⟨q, hq, ?_⟩
  rw [lotsI_yes (okLots_yes (by omega) (by omega) (by omega) (by omega)), Int.toNat_natCast, Int.toNat_natCast, he]

/-- Lots turned about are lots. -/
theorem lotsB_reverse {zs : List Int} (h : lotsB zs = true) : lotsB zs.reverse = true := lotsB_perm h (List.reverse_perm zs)
/-- **Lots whose last one is exchanged for the first are none.** -/
theorem lotsB_twice {zs : List Int} (h2 : 2 ≤ zs.length) : lotsB (zs.take (zs.length - 1) ++ [zs[0]?.getD 0]) = false := by
  cases hv : lotsB (zs.take (zs.length - 1) ++ [zs[0]?.getD 0])
  · rfl
  · exfalso
    have hn := vB_nodup hv
    rw [List.nodup_append] at hn
    have hm : zs[0]?.getD 0 ∈ zs.take (zs.length - 1) := by
      have h0 : 0 < zs.length := by omega
      have h1 : 0 < (zs.take (zs.length - 1)).length := by simp; omega
      have e : zs[0]?.getD 0 = (zs.take (zs.length - 1))[0] := by simp [h0]
      rw [e]; exact List.getElem_mem h1
    exact hn.2.2 _ hm _ (by simp) rfl

/-- What LotsFirst returns. -/
def pickB (zs : List Int) (L : List Bool) : Int := if lotsB zs = true ∧ L.length = zs.length then pickL zs L else -1
theorem lotsB_mem {zs : List Int} (h : lotsB zs = true) : ∀ z ∈ zs, 0 ≤ z ∧ z < (zs.length : Int) := (vB_mem h).2.2
/-- What LotsSeal returns. -/
def sealB (a b : Int) : Int := if inB a 0 999 = true ∧ inB b 0 999 = true then sealV a b else -1
theorem inB_of {x lo hi : Int} (h : inB x lo hi = true) : lo ≤ x ∧ x ≤ hi := by simpa [inB] using h
theorem inB_yes {x lo hi : Int} (h1 : lo ≤ x) (h2 : x ≤ hi) : inB x lo hi = true := by simp [inB]; omega
theorem inB_no {x lo hi : Int} (h : x < lo ∨ hi < x) : inB x lo hi = false := by simp [inB]; omega
theorem sealB_yes {a b : Int} (ha : 0 ≤ a ∧ a ≤ 999) (hb : 0 ≤ b ∧ b ≤ 999) : sealB a b = sealV a b := by rw [sealB, if_pos ⟨inB_yes ha.1 ha.2, inB_yes hb.1 hb.2⟩]
theorem sealB_no {a b : Int} (h : (a < 0 ∨ 999 < a) ∨ (b < 0 ∨ 999 < b)) : sealB a b = -1 := by
  rw [sealB, if_neg]
  rintro ⟨h1, h2⟩
  have := inB_of h1; have := inB_of h2; omega
theorem sealB_neg {a b : Int} : sealB a b < 0 ↔ ¬ ((0 ≤ a ∧ a ≤ 999) ∧ 0 ≤ b ∧ b ≤ 999) := by
  constructor
  · rintro h ⟨ha, hb⟩
    rw [sealB_yes ha hb, sealV] at h
    have := Int.emod_nonneg (a * 7919 + b * 104729 + 12345) (show (1000003 : Int) ≠ 0 by decide)
    omega
  · intro h
    rw [sealB_no (by omega)]; decide

end Go.Proofs.Ytbcemgmfkddafaa

namespace Go.Proofs.Ytbcemgmfkddafaa

abbrev Fr := Int × Int
def gcdI (a b : Int) : Nat := Nat.gcd a.natAbs b.natAbs
/-- A fraction is valid. -/
def fracB (f : Fr) : Bool := inB f.1 (-9999999) 9999999 && (inB f.2 1 9999999 && decide (gcdI f.1 f.2 = 1))
theorem fracB_iff (f : Fr) : fracB f = true ↔ (-9999999 ≤ f.1 ∧ f.1 ≤ 9999999) ∧ (1 ≤ f.2 ∧ f.2 ≤ 9999999) ∧ gcdI f.1 f.2 = 1 := by simp [fracB, inB]
/-- Reduced, with a denominator greater than 0. -/
def Red (f : Fr) : Prop := 0 < f.2 ∧ gcdI f.1 f.2 = 1
theorem fracB_red {f : Fr} (h : fracB f = true) : Red f := by obtain ⟨_, h2, h3⟩ := (fracB_iff f).1 h; exact ⟨by omega, h3⟩
/-- The fraction without common factors. -/
def ofF (n d : Int) : Fr := (n / (gcdI n d : Int), d / (gcdI n d : Int))
/-- Two fractions are one number. -/
def SameF (a b : Fr) : Prop := a.1 * b.2 = b.1 * a.2

theorem gcdI_pos {n d : Int} (hd : 0 < d) : 0 < gcdI n d := Nat.gcd_pos_of_pos_right _ (by omega)
theorem gcdI_dvd_left (n d : Int) : (gcdI n d : Int) ∣ n := by
  have : gcdI n d ∣ n.natAbs := Nat.gcd_dvd_left _ _
  exact Int.ofNat_dvd_left.2 this
theorem gcdI_dvd_right (n d : Int) : (gcdI n d : Int) ∣ d := by
  have : gcdI n d ∣ d.natAbs := Nat.gcd_dvd_right _ _
  exact Int.ofNat_dvd_left.2 this
theorem ofF_mul (n d : Int) : (ofF n d).1 * (gcdI n d : Int) = n ∧ (ofF n d).2 * (gcdI n d : Int) = d :=
  ⟨Int.ediv_mul_cancel (gcdI_dvd_left n d), Int.ediv_mul_cancel (gcdI_dvd_right n d)⟩
theorem ofF_red {n d : Int} (hd : 0 < d) : Red (ofF n d) := by
  have hg := gcdI_pos (n := n) hd
  obtain ⟨h1, h2⟩ := ofF_mul n d
  constructor
  · apply Int.pos_of_mul_pos_left (b := (gcdI n d : Int)) _ (by omega)
    omega
  · have e1 : (ofF n d).1.natAbs * gcdI n d = n.natAbs := by
      have := congrArg Int.natAbs h1
      rwa [Int.natAbs_mul, Int.natAbs_natCast] at this
    have e2 : (ofF n d).2.natAbs * gcdI n d = d.natAbs := by
      have := congrArg Int.natAbs h2
      rwa [Int.natAbs_mul, Int.natAbs_natCast] at this
    have e3 : gcdI (ofF n d).1 (ofF n d).2 * gcdI n d = gcdI n d := by
      unfold gcdI at e1 e2 ⊢
      rw [← Nat.gcd_mul_right, e1, e2]
    exact Nat.eq_of_mul_eq_mul_right hg (by rw [e3, Nat.one_mul])
theorem ofF_same {n d : Int} : SameF (ofF n d) (n, d) := by
  obtain ⟨h1, h2⟩ := ofF_mul n d
  show (ofF n d).1 * d = n * (ofF n d).2
  obtain ⟨u, hu⟩ : ∃ u, (ofF n d).1 = u := ⟨_, rfl⟩
  obtain ⟨v, hv⟩ : ∃ v, (ofF n d).2 = v := ⟨_, rfl⟩
  rw [hu] at h1 ⊢
  rw [hv] at h2 ⊢
  calc u * d = u * (v * (gcdI n d : Int)) := by rw [h2]
    _ = u * (gcdI n d : Int) * v := by rw [Int.mul_comm v, Int.mul_assoc]
    _ = n * v := by rw [h1]
/-- Reduced fractions that are one number are the same. -/
theorem red_eq {a b : Fr} (ha : Red a) (hb : Red b) (h : SameF a b) : a = b := by
  obtain ⟨a1, a2⟩ := ha
  obtain ⟨b1, b2⟩ := hb
  have hn : a.1.natAbs * b.2.natAbs = b.1.natAbs * a.2.natAbs := by
    rw [← Int.natAbs_mul, ← Int.natAbs_mul, h]
  have d1 : a.2.natAbs ∣ b.2.natAbs := by
    have : a.2.natAbs ∣ a.1.natAbs * b.2.natAbs := by rw [hn]; exact Nat.dvd_mul_left _ _
    exact Nat.Coprime.dvd_of_dvd_mul_left (Nat.Coprime.symm a2) this
  have d2 : b.2.natAbs ∣ a.2.natAbs := by
    have : b.2.natAbs ∣ b.1.natAbs * a.2.natAbs := by rw [← hn]; exact Nat.dvd_mul_left _ _
    exact Nat.Coprime.dvd_of_dvd_mul_left (Nat.Coprime.symm b2) this
  have e : a.2 = b.2 := by have := Nat.dvd_antisymm d1 d2; omega
  unfold SameF at h
  rw [e] at h
  exact Prod.ext (Int.eq_of_mul_eq_mul_right (by omega) h) e
theorem SameF.symm {a b : Fr} (h : SameF a b) : SameF b a := by unfold SameF at *; rw [h]
theorem SameF.trans {a b c : Fr} (hb : b.2 ≠ 0) (h : SameF a b) (k : SameF b c) : SameF a c := by
  unfold SameF at *
  apply Int.eq_of_mul_eq_mul_right hb
  calc a.1 * c.2 * b.2 = (a.1 * b.2) * c.2 := by rw [Int.mul_assoc, Int.mul_comm c.2, ← Int.mul_assoc]
    _ = (b.1 * c.2) * a.2 := by rw [h, Int.mul_assoc, Int.mul_comm a.2, ← Int.mul_assoc]
    _ = c.1 * a.2 * b.2 := by rw [k, Int.mul_assoc, Int.mul_comm b.2, ← Int.mul_assoc]
/-- The sum, the product: not reduced. -/
def sumF (a b : Fr) : Fr := (a.1 * b.2 + b.1 * a.2, a.2 * b.2)
def proF (a b : Fr) : Fr := (a.1 * b.1, a.2 * b.2)
theorem sumF_comm (a b : Fr) : sumF a b = sumF b a := by
  unfold sumF
  rw [Int.add_comm, Int.mul_comm a.2]
theorem proF_comm (a b : Fr) : proF a b = proF b a := by
  unfold proF
  rw [Int.mul_comm a.1, Int.mul_comm a.2]

/-- The order. -/
def lessF (a b : Fr) : Bool := decide (a.1 * b.2 < b.1 * a.2)
theorem less_one {a b : Fr} (ha : Red a) (hb : Red b) : ¬ (lessF a b = true ∧ lessF b a = true) ∧ (a = b ↔ lessF a b = false ∧ lessF b a = false) := by
  simp only [lessF, decide_eq_true_eq, decide_eq_false_iff_not]
  refine ⟨fun ⟨h1, h2⟩ => by omega, fun h => by subst h; exact ⟨by omega, by omega⟩, fun ⟨h1, h2⟩ => red_eq ha hb (by unfold SameF; omega)⟩
theorem sumF_pos {a b : Fr} (ha : 0 < a.2) (hb : 0 < b.2) : 0 < (sumF a b).2 := Int.mul_pos ha hb
theorem proF_pos {a b : Fr} (ha : 0 < a.2) (hb : 0 < b.2) : 0 < (proF a b).2 := Int.mul_pos ha hb
/-- Sums and products of one number are one number. -/
theorem sumF_same {a b c : Fr} (h : SameF a b) : SameF (sumF a c) (sumF b c) := by
  unfold SameF sumF at *
  grind
theorem proF_same {a b c : Fr} (h : SameF a b) : SameF (proF a c) (proF b c) := by
  unfold SameF proF at *
  grind
/-- A sum less one of its parts is the other. -/
theorem sum_back (a b : Fr) : SameF (sumF (sumF a b) (0 - a.1, a.2)) (b.1 * a.2 * a.2, b.2 * a.2 * a.2) := by
  unfold SameF sumF
  grind
theorem scale_same (b : Fr) (k : Int) : SameF (b.1 * k, b.2 * k) b := by
  unfold SameF
  grind
/-- Products of sums are sums of products. -/
theorem over_same (a b k : Fr) : SameF (proF (sumF a b) k) (sumF (proF a k) (proF b k)) := by
  unfold SameF proF sumF
  grind
/-- A sum with a greater fraction is greater. -/
theorem less_sum {a b k : Fr} (hk : 0 < k.2) (h : lessF a b = true) : lessF (sumF a k) (sumF b k) = true := by
  simp only [lessF, sumF, decide_eq_true_eq] at *
  have h1 : 0 < k.2 * k.2 := Int.mul_pos hk hk
  have h2 : a.1 * b.2 * (k.2 * k.2) < b.1 * a.2 * (k.2 * k.2) := Int.mul_lt_mul_of_pos_right h h1
  grind
/-- The order hangs on the numbers alone. -/
theorem less_same_imp {a b c : Fr} (ha : 0 < a.2) (hb : 0 < b.2) (h : SameF a b) (g : a.1 * c.2 < c.1 * a.2) : b.1 * c.2 < c.1 * b.2 := by
  unfold SameF at h
  have h2 : a.1 * c.2 * b.2 < c.1 * a.2 * b.2 := Int.mul_lt_mul_of_pos_right g hb
  have e1 : a.1 * c.2 * b.2 = b.1 * c.2 * a.2 := by
    rw [Int.mul_right_comm a.1, h]
    simp only [Int.mul_comm, Int.mul_left_comm]
  have e2 : c.1 * a.2 * b.2 = c.1 * b.2 * a.2 := Int.mul_right_comm _ _ _
  rw [e1, e2] at h2
  exact Int.lt_of_mul_lt_mul_right h2 (Int.le_of_lt ha)

theorem less_same_imp' {a b c : Fr} (ha : 0 < a.2) (hb : 0 < b.2) (h : SameF a b) (g : c.1 * a.2 < a.1 * c.2) : c.1 * b.2 < b.1 * c.2 := by
  unfold SameF at h
  have h2 : c.1 * a.2 * b.2 < a.1 * c.2 * b.2 := Int.mul_lt_mul_of_pos_right g hb
  have e1 : a.1 * c.2 * b.2 = b.1 * c.2 * a.2 := by
    rw [Int.mul_right_comm a.1, h]
    simp only [Int.mul_comm, Int.mul_left_comm]
  have e2 : c.1 * a.2 * b.2 = c.1 * b.2 * a.2 := Int.mul_right_comm _ _ _
  rw [e1, e2] at h2
  exact Int.lt_of_mul_lt_mul_right h2 (Int.le_of_lt ha)

theorem same_symm {a b : Fr} (h : SameF a b) : SameF b a := by
  unfold SameF at h ⊢
  rw [h]

theorem less_same {a b c : Fr} (ha : 0 < a.2) (hb : 0 < b.2) (h : SameF a b) : lessF a c = lessF b c ∧ lessF c a = lessF c b := by
  simp only [lessF, decide_eq_decide]
  exact ⟨⟨less_same_imp ha hb h, less_same_imp hb ha (same_symm h)⟩, ⟨less_same_imp' ha hb h, less_same_imp' hb ha (same_symm h)⟩⟩

end Go.Proofs.Ytbcemgmfkddafaa

namespace Go.Proofs.Ytbcemgmfkddafaa

/-- Bounds. -/
theorem mul_bound {x y : Int} (hx : -9999999 ≤ x ∧ x ≤ 9999999) (hy : 0 ≤ y ∧ y ≤ 9999999) : -99999980000001 ≤ x * y ∧ x * y ≤ 99999980000001 := by
  have h1 : x * y ≤ 9999999 * y := Int.mul_le_mul_of_nonneg_right hx.2 hy.1
  have h2 : -9999999 * y ≤ x * y := Int.mul_le_mul_of_nonneg_right hx.1 hy.1
  omega
theorem mul_bound2 {x y : Int} (hx : -9999999 ≤ x ∧ x ≤ 9999999) (hy : -9999999 ≤ y ∧ y ≤ 9999999) : -99999980000001 ≤ x * y ∧ x * y ≤ 99999980000001 := by
  rcases Int.le_total 0 y with h | h
  · exact mul_bound hx ⟨h, hy.2⟩
  · have := mul_bound hx (y := -y) ⟨by omega, by omega⟩
    rw [Int.mul_neg] at this
    omega

theorem fracB_of {f : Fr} (h1 : -9999999 ≤ f.1 ∧ f.1 ≤ 9999999) (h2 : 1 ≤ f.2 ∧ f.2 ≤ 9999999) (h3 : gcdI f.1 f.2 = 1) : fracB f = true := (fracB_iff f).2 ⟨h1, h2, h3⟩
theorem fracB_den {f : Fr} (h : fracB f = true) : 0 < f.2 := by have := (fracB_iff f).1 h; omega
/-- A number is not made greater by division. -/
theorem ofF_bound {n d : Int} (hd : 0 < d) : (ofF n d).1.natAbs ≤ n.natAbs ∧ 1 ≤ (ofF n d).2 ∧ (ofF n d).2 ≤ d := by
  have hg := gcdI_pos (n := n) hd
  obtain ⟨h1, h2⟩ := ofF_mul n d
  have hr := (ofF_red (n := n) hd).1
  refine ⟨?_, by omega, ?_⟩
  · have e1 : (ofF n d).1.natAbs * gcdI n d = n.natAbs := by
      have := congrArg Int.natAbs h1
      rwa [Int.natAbs_mul, Int.natAbs_natCast] at this
    rw [← e1]; exact Nat.le_mul_of_pos_right _ hg
  · have h3 : (ofF n d).2 * 1 ≤ (ofF n d).2 * (gcdI n d : Int) := Int.mul_le_mul_of_nonneg_left (by omega) (by omega)
    omega
theorem ofF_self {f : Fr} (h : Red f) : ofF f.1 f.2 = f := red_eq (ofF_red h.1) h ofF_same
/-- The fraction of a number hangs on the number alone. -/
theorem ofF_same_eq {n d n' d' : Int} (hd : 0 < d) (hd' : 0 < d') (h : n * d' = n' * d) : ofF n d = ofF n' d' :=
  red_eq (ofF_red hd) (ofF_red hd') ((SameF.trans (b := (n, d)) (by show d ≠ 0; omega) ofF_same (SameF.trans (b := (n', d')) (by show d' ≠ 0; omega) h (same_symm ofF_same))))

/-- FracOf. -/
def ofOk (n d : Int) : Bool := inB n (-9999999) 9999999 && inB d 1 9999999
def ofR (n d : Int) : Fr := if ofOk n d = true then ofF n d else (0, 0)
theorem ofOk_iff (n d : Int) : ofOk n d = true ↔ (-9999999 ≤ n ∧ n ≤ 9999999) ∧ 1 ≤ d ∧ d ≤ 9999999 := by simp [ofOk, inB]
theorem ofR_yes {n d : Int} (h : ofOk n d = true) : ofR n d = ofF n d := by rw [ofR, if_pos h]
theorem ofR_no {n d : Int} (h : ofOk n d = false) : ofR n d = (0, 0) := by rw [ofR, h]; rfl
/-- FracAdd, FracTimes. -/
def addOk (a b : Fr) : Bool := fracB a && (fracB b && fracB (ofF (sumF a b).1 (sumF a b).2))
def addR (a b : Fr) : Fr := if addOk a b = true then ofF (sumF a b).1 (sumF a b).2 else (0, 0)
def mulOk (a b : Fr) : Bool := fracB a && (fracB b && fracB (ofF (proF a b).1 (proF a b).2))
def mulR (a b : Fr) : Fr := if mulOk a b = true then ofF (proF a b).1 (proF a b).2 else (0, 0)
/-- FracLess. -/
def lessB (a b : Fr) : Bool := fracB a && (fracB b && lessF a b)
theorem addOk_iff (a b : Fr) : addOk a b = true ↔ fracB a = true ∧ fracB b = true ∧ fracB (ofF (sumF a b).1 (sumF a b).2) = true := by simp [addOk]
theorem mulOk_iff (a b : Fr) : mulOk a b = true ↔ fracB a = true ∧ fracB b = true ∧ fracB (ofF (proF a b).1 (proF a b).2) = true := by simp [mulOk]
theorem lessB_iff (a b : Fr) : lessB a b = true ↔ fracB a = true ∧ fracB b = true ∧ lessF a b = true := by simp [lessB]
theorem addR_yes {a b : Fr} (h : addOk a b = true) : addR a b = ofF (sumF a b).1 (sumF a b).2 := by rw [addR, if_pos h]
theorem addR_no {a b : Fr} (h : addOk a b = false) : addR a b = (0, 0) := by rw [addR, h]; rfl
theorem mulR_yes {a b : Fr} (h : mulOk a b = true) : mulR a b = ofF (proF a b).1 (proF a b).2 := by rw [mulR, if_pos h]
theorem mulR_no {a b : Fr} (h : mulOk a b = false) : mulR a b = (0, 0) := by rw [mulR, h]; rfl
/-- What is summed up or multiplied fits into an int. -/
theorem sumF_bound {a b : Fr} (ha : fracB a = true) (hb : fracB b = true) : (-199999960000002 ≤ (sumF a b).1 ∧ (sumF a b).1 ≤ 199999960000002) ∧ 0 < (sumF a b).2 ∧ (sumF a b).2 ≤ 99999980000001 := by
  obtain ⟨a1, a2, _⟩ := (fracB_iff a).1 ha
  obtain ⟨b1, b2, _⟩ := (fracB_iff b).1 hb
  have h1 := mul_bound a1 (y := b.2) ⟨by omega, by omega⟩
  have h2 := mul_bound b1 (y := a.2) ⟨by omega, by omega⟩
  have h3 := mul_bound (x := a.2) ⟨by omega, by omega⟩ (y := b.2) ⟨by omega, by omega⟩
  have h4 := sumF_pos (a := a) (b := b) (by omega) (by omega)
  unfold sumF at *
  exact ⟨⟨by omega, by omega⟩, h4, h3.2⟩
theorem proF_bound {a b : Fr} (ha : fracB a = true) (hb : fracB b = true) : (-99999980000001 ≤ (proF a b).1 ∧ (proF a b).1 ≤ 99999980000001) ∧ 0 < (proF a b).2 ∧ (proF a b).2 ≤ 99999980000001 := by
  obtain ⟨a1, a2, _⟩ := (fracB_iff a).1 ha
  obtain ⟨b1, b2, _⟩ := (fracB_iff b).1 hb
  have h1 := mul_bound2 a1 b1
  have h3 := mul_bound (x := a.2) ⟨by omega, by omega⟩ (y := b.2) ⟨by omega, by omega⟩
  have h4 := proF_pos (a := a) (b := b) (by omega) (by omega)
  unfold proF at *
  exact ⟨h1, h4, h3.2⟩
theorem addR_valid {a b : Fr} (h : addOk a b = true) : fracB (addR a b) = true := by rw [addR_yes h]; exact ((addOk_iff a b).1 h).2.2
theorem mulR_valid {a b : Fr} (h : mulOk a b = true) : fracB (mulR a b) = true := by rw [mulR_yes h]; exact ((mulOk_iff a b).1 h).2.2

/-- **A fraction is reduced** (promise 29). -/
theorem of_valid {n d : Int} (h : ofOk n d = true) : fracB (ofR n d) = true ∧ (ofR n d).1 * d = n * (ofR n d).2 := by
  obtain ⟨h1, h2⟩ := (ofOk_iff n d).1 h
  have hd : 0 < d := by omega
  rw [ofR_yes h]
  obtain ⟨b1, b2, b3⟩ := ofF_bound (n := n) hd
  refine ⟨fracB_of ⟨by omega, by omega⟩ ⟨by omega, by omega⟩ (ofF_red hd).2, ofF_same⟩
theorem of_three {n d : Int} (h : ofOk n d = true) (h3 : ofOk (3 * n) (3 * d) = true) : ofR (3 * n) (3 * d) = ofR n d := by
  obtain ⟨h1, h2⟩ := (ofOk_iff n d).1 h
  rw [ofR_yes h, ofR_yes h3]
  refine ofF_same_eq (by omega) (by omega) ?_
  rw [Int.mul_comm 3 n, Int.mul_assoc]
/-- **Sums have no order** (promise 30). -/
theorem add_comm_ok (a b : Fr) : addOk b a = addOk a b ∧ addR b a = addR a b := by
  have e : addOk b a = addOk a b := by
    rw [Bool.eq_iff_iff, addOk_iff, addOk_iff, sumF_comm b a]
    exact ⟨fun ⟨h1, h2, h3⟩ => ⟨h2, h1, h3⟩, fun ⟨h1, h2, h3⟩ => ⟨h2, h1, h3⟩⟩
  exact ⟨e, by unfold addR; rw [e, sumF_comm b a]⟩
theorem neg_valid {a : Fr} (h : fracB a = true) : fracB (0 - a.1, a.2) = true := by
  obtain ⟨h1, h2, h3⟩ := (fracB_iff a).1 h
  refine fracB_of ⟨by show -9999999 ≤ 0 - a.1; omega, by show 0 - a.1 ≤ 9999999; omega⟩ h2 ?_
  show gcdI (0 - a.1) a.2 = 1
  unfold gcdI at h3 ⊢
  rw [Int.zero_sub, Int.natAbs_neg]; exact h3
theorem add_back {a b : Fr} (h : addOk a b = true) : addOk (addR a b) (0 - a.1, a.2) = true ∧ addR (addR a b) (0 - a.1, a.2) = b := by
  obtain ⟨ha, hb, hs⟩ := (addOk_iff a b).1 h
  have da := fracB_den ha
  have db := fracB_den hb
  have hsd := sumF_pos (a := a) (b := b) da db
  have hv := addR_valid h
  have dr := fracB_den hv
  have hS : SameF (addR a b) (sumF a b) := by rw [addR_yes h]; exact ofF_same
  have hback : SameF (sumF (addR a b) (0 - a.1, a.2)) b := by
    refine SameF.trans (b := sumF (sumF a b) (0 - a.1, a.2)) ?_ (sumF_same hS) (SameF.trans (b := (b.1 * a.2 * a.2, b.2 * a.2 * a.2)) ?_ (sum_back a b) ?_)
    · have := sumF_pos (a := sumF a b) (b := (0 - a.1, a.2)) hsd da
      omega
    · show b.2 * a.2 * a.2 ≠ 0
      have := Int.mul_pos (Int.mul_pos db da) da
      omega
    · have := scale_same b (a.2 * a.2)
      rwa [← Int.mul_assoc, ← Int.mul_assoc] at this
  have hd2 : 0 < (sumF (addR a b) (0 - a.1, a.2)).2 := sumF_pos (a := addR a b) (b := (0 - a.1, a.2)) dr da
  have he : ofF (sumF (addR a b) (0 - a.1, a.2)).1 (sumF (addR a b) (0 - a.1, a.2)).2 = b :=
    red_eq (ofF_red hd2) (fracB_red hb) (SameF.trans (b := sumF (addR a b) (0 - a.1, a.2)) (by omega) ofF_same hback)
  have hok : addOk (addR a b) (0 - a.1, a.2) = true := (addOk_iff _ _).2 ⟨hv, neg_valid ha, by rw [he]; exact hb⟩
  exact ⟨hok, by rw [addR_yes hok, he]⟩
/-- **A sum is exact** (promise 31), **a product, too** (promise 32). -/
theorem add_exact {a b : Fr} (h : addOk a b = true) (h2 : ofOk (a.1 * b.2 + b.1 * a.2) (a.2 * b.2) = true) : ofR (a.1 * b.2 + b.1 * a.2) (a.2 * b.2) = addR a b := by rw [ofR_yes h2, addR_yes h]; rfl
theorem mul_comm_ok (a b : Fr) : mulOk b a = mulOk a b ∧ mulR b a = mulR a b := by
  have e : mulOk b a = mulOk a b := by
    rw [Bool.eq_iff_iff, mulOk_iff, mulOk_iff, proF_comm b a]
    exact ⟨fun ⟨h1, h2, h3⟩ => ⟨h2, h1, h3⟩, fun ⟨h1, h2, h3⟩ => ⟨h2, h1, h3⟩⟩
  exact ⟨e, by unfold mulR; rw [e, proF_comm b a]⟩
theorem mul_exact {a b : Fr} (h : mulOk a b = true) (h2 : ofOk (a.1 * b.1) (a.2 * b.2) = true) : ofR (a.1 * b.1) (a.2 * b.2) = mulR a b := by rw [ofR_yes h2, mulR_yes h]; rfl
/-- **Products of sums are sums of products** (promise 33). -/
theorem over_exact {a b k : Fr} (h : addOk a b = true) (h1 : mulOk a k = true) (h2 : mulOk b k = true) (h3 : mulOk (addR a b) k = true) (h4 : addOk (mulR a k) (mulR b k) = true) : addR (mulR a k) (mulR b k) = mulR (addR a b) k := by
  obtain ⟨ha, hb, _⟩ := (addOk_iff a b).1 h
  have hk := ((mulOk_iff a k).1 h1).2.1
  have da := fracB_den ha
  have db := fracB_den hb
  have dk := fracB_den hk
  have dx := fracB_den (mulR_valid h1)
  have dy := fracB_den (mulR_valid h2)
  have ds := fracB_den (addR_valid h)
  have sx : SameF (mulR a k) (proF a k) := by rw [mulR_yes h1]; exact ofF_same
  have sy : SameF (mulR b k) (proF b k) := by rw [mulR_yes h2]; exact ofF_same
  have ss : SameF (addR a b) (sumF a b) := by rw [addR_yes h]; exact ofF_same
  have s1 : SameF (addR (mulR a k) (mulR b k)) (sumF (mulR a k) (mulR b k)) := by rw [addR_yes h4]; exact ofF_same
  have s2 : SameF (mulR (addR a b) k) (proF (addR a b) k) := by rw [mulR_yes h3]; exact ofF_same
  have dpa := proF_pos (a := a) (b := k) da dk
  have dpb := proF_pos (a := b) (b := k) db dk
  have t1 : SameF (sumF (mulR a k) (mulR b k)) (sumF (proF a k) (mulR b k)) := sumF_same sx
  have t2 : SameF (sumF (proF a k) (mulR b k)) (sumF (proF a k) (proF b k)) := by
    rw [sumF_comm (proF a k) (mulR b k), sumF_comm (proF a k) (proF b k)]; exact sumF_same sy
  have t3 : SameF (proF (addR a b) k) (proF (sumF a b) k) := proF_same ss
  have t4 := over_same a b k
  refine red_eq (fracB_red (addR_valid h4)) (fracB_red (mulR_valid h3)) ?_
  have n1 : (sumF (mulR a k) (mulR b k)).2 ≠ 0 := by have := sumF_pos (a := mulR a k) (b := mulR b k) dx dy; omega
  have n2 : (sumF (proF a k) (mulR b k)).2 ≠ 0 := by have := sumF_pos (a := proF a k) (b := mulR b k) dpa dy; omega
  have n3 : (sumF (proF a k) (proF b k)).2 ≠ 0 := by have := sumF_pos (a := proF a k) (b := proF b k) dpa dpb; omega
  have n4 : (proF (sumF a b) k).2 ≠ 0 := by have := proF_pos (a := sumF a b) (b := k) (sumF_pos da db) dk; omega
  have n5 : (proF (addR a b) k).2 ≠ 0 := by have := proF_pos (a := addR a b) (b := k) ds dk; omega
  exact SameF.trans n1 s1 (SameF.trans n2 t1 (SameF.trans n3 t2 (SameF.trans n4 (same_symm t4) (SameF.trans n5 (same_symm t3) (same_symm s2)))))
/-- **One of two fractions is less, or both are equal** (promise 34). -/
theorem less_law {a b : Fr} (ha : fracB a = true) (hb : fracB b = true) : (lessB a b && lessB b a) = false ∧ (decide (a = b) = (!lessB a b && !lessB b a)) := by
  have h := less_one (fracB_red ha) (fracB_red hb)
  have e1 : lessB a b = lessF a b := by simp [lessB, ha, hb]
  have e2 : lessB b a = lessF b a := by simp [lessB, ha, hb]
  rw [e1, e2]
  refine ⟨?_, ?_⟩
  · cases h1 : lessF a b <;> cases h2 : lessF b a <;> first | rfl | exact absurd ⟨h1, h2⟩ h.1
  · rw [Bool.eq_iff_iff, decide_eq_true_eq, h.2]; simp
/-- **A sum with a greater fraction is greater** (promise 35). -/
theorem less_add {a b k : Fr} (h : lessB a b = true) (h1 : addOk a k = true) (h2 : addOk b k = true) : lessB (addR a k) (addR b k) = true := by
  obtain ⟨ha, hb, hl⟩ := (lessB_iff a b).1 h
  have hk := ((addOk_iff a k).1 h1).2.1
  have da := fracB_den ha
  have db := fracB_den hb
  have dk := fracB_den hk
  have va := addR_valid h1
  have vb := addR_valid h2
  refine (lessB_iff _ _).2 ⟨va, vb, ?_⟩
  have sa : SameF (sumF a k) (addR a k) := by rw [addR_yes h1]; exact same_symm ofF_same
  have sb : SameF (sumF b k) (addR b k) := by rw [addR_yes h2]; exact same_symm ofF_same
  have h3 := less_sum dk hl
  rw [(less_same (sumF_pos da dk) (fracB_den va) sa).1] at h3
  rwa [(less_same (sumF_pos db dk) (fracB_den vb) sb).2] at h3
/-- **A fraction has no common factor** (promise 37). -/
theorem part_two (f : Fr) : fracB (2 * f.1, 2 * f.2) = false := by
  cases hv : fracB (2 * f.1, 2 * f.2)
  · rfl
  · exfalso
    have h3 := ((fracB_iff _).1 hv).2.2
    have : gcdI (2 * f.1) (2 * f.2) = 2 * gcdI f.1 f.2 := by
      unfold gcdI
      rw [Int.natAbs_mul, Int.natAbs_mul]; exact Nat.gcd_mul_left _ _ _
    have h4 : gcdI (2 * f.1) (2 * f.2) = 1 := h3
    omega
theorem part_zero (n : Int) : fracB (n, 0) = false := by
  cases hv : fracB (n, 0)
  · rfl
  · have h2 := ((fracB_iff _).1 hv).2.1
    have : (1 : Int) ≤ 0 := h2.1
    omega

/-- The loop of the greatest common divisor. -/
theorem gcd_step (a b : Nat) : Nat.gcd b (a % b) = Nat.gcd a b := by rw [Nat.gcd_comm b, ← Nat.gcd_rec, Nat.gcd_comm]
theorem max_abs (n : Int) (h : -9223372036854775807 ≤ n) : (if n < 0 - n then 0 - n else n) = (n.natAbs : Int) := by split <;> omega

end Go.Proofs.Ytbcemgmfkddafaa

namespace Go.Proofs.Ytbcemgmfkddafaa

/-- What a party has. -/
def seV (zs : List Int) (z : Int) : Int := zs[z.toNat]?.getD 0
theorem seV_nat (zs : List Int) (i : Nat) : seV zs (i : Int) = zs[i]?.getD 0 := by unfold seV; rw [Int.toNat_natCast]
/-- The first k numbers are from 0 to m. -/
def toB (zs : List Int) (m : Int) (k : Nat) : Bool := (List.range k).all fun i => inB (zs[i]?.getD 0) 0 m
theorem toB_succ (zs : List Int) (m : Int) (k : Nat) : toB zs m (k + 1) = (toB zs m k && inB (zs[k]?.getD 0) 0 m) := by simp [toB, List.range_succ]
theorem toB_no {zs : List Int} {m : Int} {k n : Nat} (h : toB zs m (k + 1) = false) (hk : k < n) : toB zs m n = false := by
  simp only [toB, List.all_eq_false, List.mem_range] at h ⊢
  obtain ⟨i, h1, h2⟩ := h
  exact ⟨i, by omega, h2⟩
theorem toB_at {zs : List Int} {m : Int} {k : Nat} (h : toB zs m k = true) {i : Nat} (hi : i < k) : 0 ≤ zs[i]?.getD 0 ∧ zs[i]?.getD 0 ≤ m := by
  simp only [toB, inB, decide_eq_true_eq, List.all_eq_true, List.mem_range] at h
  exact h i hi
theorem toB_of {zs : List Int} {m : Int} {k : Nat} (h : ∀ i, i < k → 0 ≤ zs[i]?.getD 0 ∧ zs[i]?.getD 0 ≤ m) : toB zs m k = true := by
  simp only [toB, inB, decide_eq_true_eq, List.all_eq_true, List.mem_range]
  exact h
/-- One to five numbers from 0 to m. -/
def choB (zs : List Int) (m : Int) : Bool := toB zs m zs.length && inB (zs.length : Int) 1 5
theorem choB_iff (zs : List Int) (m : Int) : choB zs m = true ↔ toB zs m zs.length = true ∧ 1 ≤ zs.length ∧ zs.length ≤ 5 := by
  simp only [choB, inB, Bool.and_eq_true, decide_eq_true_eq]
  refine and_congr Iff.rfl ⟨fun h => by omega, fun h => by omega⟩
/-- Votes are valid. -/
def voteB (vs : List Int) : Bool := choB vs 99 && decide (0 < totI vs)
/-- Seats that were given to n parties are valid. -/
def giveB (gs : List Int) (n : Nat) : Bool := toB gs 20 gs.length && (decide (gs.length = n) && decide (totI gs ≤ 20))
/-- There is such a method. -/
def methB (m : Int) : Bool := decide (m = 1) || decide (m = 2)
theorem methB_iff (m : Int) : methB m = true ↔ m = 1 ∨ m = 2 := by simp [methB]
theorem voteB_iff (vs : List Int) : voteB vs = true ↔ (toB vs 99 vs.length = true ∧ 1 ≤ vs.length ∧ vs.length ≤ 5) ∧ 0 < totI vs := by
  unfold voteB; rw [Bool.and_eq_true, choB_iff, decide_eq_true_iff]
theorem giveB_iff (gs : List Int) (n : Nat) : giveB gs n = true ↔ toB gs 20 gs.length = true ∧ gs.length = n ∧ totI gs ≤ 20 := by
  unfold giveB; rw [Bool.and_eq_true, Bool.and_eq_true, decide_eq_true_iff, decide_eq_true_iff]
theorem seV_nn {zs : List Int} {m : Int} (h : toB zs m zs.length = true) (z : Int) : 0 ≤ seV zs z := by
  unfold seV
  by_cases hi : z.toNat < zs.length
  · exact (toB_at h hi).1
  · rw [List.getElem?_eq_none (by omega)]; exact Int.le_refl _
/-- The votes, the seats, the method and the lots are valid. -/
def okN (vs gs : List Int) (m : Int) (lots : List Int) : Bool := voteB vs && (giveB gs vs.length && (methB m && (lotsB lots && decide (lots.length = vs.length))))
def okD (vs : List Int) (s m : Int) (lots : List Int) : Bool := voteB vs && (inB s 0 20 && (methB m && (lotsB lots && decide (lots.length = vs.length))))
theorem okN_iff (vs gs : List Int) (m : Int) (lots : List Int) : okN vs gs m lots = true ↔ voteB vs = true ∧ giveB gs vs.length = true ∧ methB m = true ∧ lotsB lots = true ∧ lots.length = vs.length := by
  unfold okN; simp only [Bool.and_eq_true, decide_eq_true_iff]
theorem okD_iff (vs : List Int) (s m : Int) (lots : List Int) : okD vs s m lots = true ↔ voteB vs = true ∧ (0 ≤ s ∧ s ≤ 20) ∧ methB m = true ∧ lotsB lots = true ∧ lots.length = vs.length := by
  unfold okD inB; simp only [Bool.and_eq_true, decide_eq_true_iff]
/-- What SeatsNext returns. -/
def nextI (vs gs : List Int) (m : Int) (lots : List Int) : Int := if okN vs gs m lots = true then nextL (seV vs) (seV gs) m lots else -1
/-- The seats behind n rounds. -/
def seatsL (vs : List Int) (m : Int) (lots : List Int) : Nat → List Int
  | 0 => List.replicate vs.length 0
  | n + 1 => (seatsL vs m lots n).set (nextL (seV vs) (seV (seatsL vs m lots n)) m lots).toNat (seV (seatsL vs m lots n) (nextL (seV vs) (seV (seatsL vs m lots n)) m lots) + 1)
theorem seatsL_succ (vs : List Int) (m : Int) (lots : List Int) (n : Nat) : seatsL vs m lots (n + 1) = (seatsL vs m lots n).set (nextL (seV vs) (seV (seatsL vs m lots n)) m lots).toNat (seV (seatsL vs m lots n) (nextL (seV vs) (seV (seatsL vs m lots n)) m lots) + 1) := rfl
theorem seatsL_length (vs : List Int) (m : Int) (lots : List Int) : ∀ n, (seatsL vs m lots n).length = vs.length
  | 0 => by simp [seatsL]
  | n + 1 => by rw [seatsL_succ, List.length_set, seatsL_length vs m lots n]
/-- What SeatsDivisor returns. -/
def divL (vs : List Int) (s m : Int) (lots : List Int) : List Int := if okD vs s m lots = true then seatsL vs m lots s.toNat else []
/-- Of a seat of i's: whether k wants it no more. -/
def chAt (vs gs : List Int) (m : Int) (i k : Nat) : Bool := !(decide (0 < gs[i]?.getD 0) && decide (vs[i]?.getD 0 * divI m (gs[k]?.getD 0) < vs[k]?.getD 0 * divI m (gs[i]?.getD 0 - 1)))
def chRow (vs gs : List Int) (m : Int) (i K : Nat) : Bool := (List.range K).all fun k => chAt vs gs m i k
def chTo (vs gs : List Int) (m : Int) (n I : Nat) : Bool := (List.range I).all fun i => chRow vs gs m i n
theorem chRow_succ (vs gs : List Int) (m : Int) (i K : Nat) : chRow vs gs m i (K + 1) = (chRow vs gs m i K && chAt vs gs m i K) := by simp [chRow, List.range_succ]
theorem chTo_succ (vs gs : List Int) (m : Int) (n I : Nat) : chTo vs gs m n (I + 1) = (chTo vs gs m n I && chRow vs gs m I n) := by simp [chTo, List.range_succ]
theorem chTo_no {vs gs : List Int} {m : Int} {n i k : Nat} (hi : i < n) (hk : k < n) (h : chAt vs gs m i k = false) : chTo vs gs m n n = false := by
  unfold chTo
  rw [List.all_eq_false]
  refine ⟨i, List.mem_range.2 hi, ?_⟩
  unfold chRow
  rw [Bool.not_eq_true, List.all_eq_false]
  exact ⟨k, List.mem_range.2 hk, by rw [h]; decide⟩
theorem chTo_row {vs gs : List Int} {m : Int} {n i : Nat} (hi : i < n) (h : chRow vs gs m i n = false) : chTo vs gs m n n = false := by
  unfold chTo
  rw [List.all_eq_false]
  exact ⟨i, List.mem_range.2 hi, by rw [h]; decide⟩
/-- The check of valid arguments. -/
def okC (vs gs : List Int) (m : Int) : Bool := voteB vs && (giveB gs vs.length && methB m)
theorem okC_iff (vs gs : List Int) (m : Int) : okC vs gs m = true ↔ voteB vs = true ∧ giveB gs vs.length = true ∧ methB m = true := by
  unfold okC; simp only [Bool.and_eq_true]
/-- What SeatsCheck returns. -/
def checkB (vs gs : List Int) (m : Int) : Bool := okC vs gs m && chTo vs gs m vs.length vs.length

/-- The next one depends on the seats of those in the lots alone. -/
theorem nextF_eq {V W G H : Int → Int} {m : Int} : ∀ (t : List Int) (b : Int), (∀ z ∈ b :: t, V z = W z ∧ G z = H z) → nextF V G m b t = nextF W H m b t
  | [], _, _ => rfl
  | k :: t, b, h => by
    unfold nextF
    have hb := h b (by simp)
    have hk := h k (by simp)
    rw [hb.1, hb.2, hk.1, hk.2]
    split
    · exact nextF_eq t k (fun z hz => h z (by rcases List.mem_cons.1 hz with e | e <;> simp [e]))
    · exact nextF_eq t b (fun z hz => h z (by rcases List.mem_cons.1 hz with e | e <;> simp [e]))
theorem nextL_eq {V W G H : Int → Int} {m : Int} {lots : List Int} (h0 : lots ≠ []) (h : ∀ z ∈ lots, V z = W z ∧ G z = H z) : nextL V G m lots = nextL W H m lots := by
  match lots, h0, h with
  | b :: t, _, h => exact nextF_eq t b h
theorem seV_set {zs : List Int} {n : Nat} (hl : zs.length = n) {k z : Int} (hk : 0 ≤ k ∧ k < (n : Int)) (hz : 0 ≤ z) (v : Int) : seV (zs.set k.toNat v) z = if z = k then v else seV zs z := by
  unfold seV
  by_cases e : z = k
  · subst e; rw [if_pos rfl, List.getElem?_set_self (by omega)]; rfl
  · rw [if_neg e, List.getElem?_set_ne (by omega)]
theorem totI_set : ∀ (zs : List Int) (k : Nat) (v : Int), k < zs.length → totI (zs.set k v) = totI zs + (v - zs[k]?.getD 0)
  | [], _, _, h => by simp at h
  | z :: t, 0, v, _ => by simp only [List.set_cons_zero, totI_cons, List.getElem?_cons_zero, Option.getD_some]; omega
  | z :: t, k + 1, v, h => by
    have := totI_set t k v (by simpa using h)
    simp only [List.set_cons_succ, totI_cons, List.getElem?_cons_succ]; omega
theorem totI_repl (n : Nat) : totI (List.replicate n 0) = 0 := by
  induction n with
  | zero => rfl
  | succ n ih => rw [List.replicate_succ, totI_cons, ih]; rfl
theorem le_totI : ∀ {zs : List Int}, (∀ i, i < zs.length → 0 ≤ zs[i]?.getD 0) → (0 ≤ totI zs ∧ ∀ i, i < zs.length → zs[i]?.getD 0 ≤ totI zs)
  | [], _ => ⟨Int.le_refl _, fun i h => by simp at h⟩
  | z :: t, h => by
    have ih := le_totI (zs := t) (fun i hi => by have := h (i + 1) (by simpa using hi); simpa using this)
    have h0 := h 0 (by simp)
    simp only [List.getElem?_cons_zero, Option.getD_some] at h0
    rw [totI_cons]
    refine ⟨by omega, fun i hi => ?_⟩
    match i, hi with
    | 0, _ => simp only [List.getElem?_cons_zero, Option.getD_some]; omega
    | i + 1, hi =>
      have := ih.2 i (by simpa using hi)
      simp only [List.getElem?_cons_succ]; omega
theorem take_le_totI {zs : List Int} (h : ∀ i, i < zs.length → 0 ≤ zs[i]?.getD 0) (k : Nat) : totI (zs.take k) ≤ totI zs := by
  have e : totI zs = totI (zs.take k) + totI (zs.drop k) := by rw [← totI_app, List.take_append_drop]
  have := (le_totI (zs := zs.drop k) (fun i hi => by
    rw [List.getElem?_drop]; exact h _ (by simp at hi; omega))).1
  omega

section
variable {vs lots : List Int} {m : Int}
theorem meth_nn (hm : methB m = true) : 0 < m ∧ m ≤ 2 := by rcases (methB_iff m).1 hm with e | e <;> omega
theorem lots_ne (hl : lotsB lots = true) : lots ≠ [] := fun e => by have := (lotsB_len hl).1; rw [e] at this; simp at this
theorem next_in {gs : List Int} {n : Nat} (hm : methB m = true) (hl : lotsB lots = true) (hn : lots.length = n) (hg : toB gs 20 gs.length = true) : 0 ≤ nextL (seV vs) (seV gs) m lots ∧ nextL (seV vs) (seV gs) m lots < (n : Int) := by
  have := (next_spec (V := seV vs) (Int.le_of_lt (meth_nn hm).1) (fun z => seV_nn hg z) (vB_nodup hl) (lots_ne hl)).1
  have := lotsB_mem hl _ this
  omega
/-- Rounds by list are rounds by function; what they keep. -/
theorem seats_are (hm : methB m = true) (hl : lotsB lots = true) (hn : lots.length = vs.length) : ∀ n : Nat, n ≤ 20 → giveB (seatsL vs m lots n) vs.length = true ∧ totI (seatsL vs m lots n) = (n : Int) ∧ ∀ z ∈ lots, seV (seatsL vs m lots n) z = seatF (seV vs) m lots n z
  | 0, _ => by
    have h0 : ∀ i : Nat, (List.replicate vs.length (0 : Int))[i]?.getD 0 = 0 := fun i => by
      rw [List.getElem?_replicate]; split <;> rfl
    refine ⟨(giveB_iff _ _).2 ⟨toB_of (fun i _ => ?_), by simp [seatsL], ?_⟩, ?_, fun z _ => ?_⟩
    · show 0 ≤ (List.replicate vs.length (0 : Int))[i]?.getD 0 ∧ (List.replicate vs.length (0 : Int))[i]?.getD 0 ≤ 20
      rw [h0]; omega
    · show totI (List.replicate vs.length 0) ≤ 20
      rw [totI_repl]; omega
    · exact totI_repl _
    · exact h0 _
  | n + 1, h => by
    obtain ⟨h1, h2, h3⟩ := seats_are hm hl hn n (by omega)
    obtain ⟨h4, h5, h6⟩ := (giveB_iff _ _).1 h1
    have hlen := seatsL_length vs m lots n
    have hk := next_in (vs := vs) hm hl hn h4
    have he : nextL (seV vs) (seV (seatsL vs m lots n)) m lots = nextL (seV vs) (seatF (seV vs) m lots n) m lots := nextL_eq (lots_ne hl) (fun z hz => ⟨rfl, h3 z hz⟩)
    have hs := seatsL_succ vs m lots n
    obtain ⟨k, hke⟩ : ∃ k, nextL (seV vs) (seV (seatsL vs m lots n)) m lots = k := ⟨_, rfl⟩
    rw [hke] at hk hs he
    have hkn : 0 ≤ seV (seatsL vs m lots n) k := seV_nn h4 k
    have ht : totI (seatsL vs m lots (n + 1)) = (n : Int) + 1 := by
      rw [hs, totI_set _ _ _ (by omega), h2]
      show (n : Int) + (seV (seatsL vs m lots n) k + 1 - seV (seatsL vs m lots n) k) = (n : Int) + 1
      omega
    have hnn : ∀ i, i < (seatsL vs m lots (n + 1)).length → 0 ≤ (seatsL vs m lots (n + 1))[i]?.getD 0 := fun i hi => by
      have e := seV_set hlen hk (z := (i : Int)) (by omega) (seV (seatsL vs m lots n) k + 1)
      rw [seV_nat, ← hs] at e
      rw [e]
      split
      · omega
      · exact seV_nn h4 _
    have hle := (le_totI hnn).2
    refine ⟨(giveB_iff _ _).2 ⟨toB_of (fun i hi => ⟨hnn i hi, ?_⟩), seatsL_length _ _ _ _, by omega⟩, by omega, fun z hz => ?_⟩
    · have := hle i hi
      omega
    · have hz0 := lotsB_mem hl z hz
      rw [hs, seV_set hlen hk hz0.1, seatF_succ, ← he]
      unfold plus
      split
      · rename_i e; subst e; rw [h3 z hz]
      · exact h3 z hz
/-- **All seats are given** (promise 82), and no seats without votes. -/
theorem seats_check (hv : voteB vs = true) (hm : methB m = true) (hl : lotsB lots = true) (hn : lots.length = vs.length) {n : Nat} (h20 : n ≤ 20) : Chk (seV vs) (seV (seatsL vs m lots n)) m lots := by
  obtain ⟨⟨hv1, -, -⟩, -⟩ := (voteB_iff vs).1 hv
  have h3 := (seats_are hm hl hn n h20).2.2
  have hc := seatF_chk (V := seV vs) (Int.le_of_lt (meth_nn hm).1) (seV_nn hv1) (vB_nodup hl) (lots_ne hl) n
  intro i hi k hk hp
  rw [h3 i hi] at hp ⊢
  rw [h3 k hk]
  exact hc i hi k hk hp
theorem seats_none (hv : voteB vs = true) (hm : methB m = true) (hl : lotsB lots = true) (hn : lots.length = vs.length) {n : Nat} (h20 : n ≤ 20) {i : Nat} (hi : i < vs.length) (h0 : vs[i]?.getD 0 = 0) : (seatsL vs m lots n)[i]?.getD 0 = 0 := by
  obtain ⟨⟨hv1, -, -⟩, hv4⟩ := (voteB_iff vs).1 hv
  have him : (i : Int) ∈ lots := lots_mem hl (by omega)
  have hx : ∃ k ∈ lots, 0 < seV vs k := by
    by_cases h : ∃ k ∈ lots, 0 < seV vs k
    · exact h
    · exfalso
      have hz : ∀ j, j < vs.length → vs[j]?.getD 0 = (List.replicate vs.length (0 : Int))[j]?.getD 0 := fun j hj => by
        have h1 : ¬ 0 < seV vs (j : Int) := fun hp => h ⟨(j : Int), lots_mem hl (by omega), hp⟩
        have h2 := seV_nn hv1 (j : Int)
        rw [seV_nat] at h1 h2
        rw [List.getElem?_replicate, if_pos hj]
        show vs[j]?.getD 0 = 0
        omega
      have := totI_le (a := vs) (b := List.replicate vs.length 0) (by simp) (fun j hj => by rw [hz j hj]; exact Int.le_refl _)
      rw [totI_repl] at this
      omega
  have := seatF_none (V := seV vs) (Int.le_of_lt (meth_nn hm).1) (seV_nn hv1) (vB_nodup hl) hx (i := (i : Int)) (by rw [seV_nat]; exact h0) n
  rw [← (seats_are hm hl hn n h20).2.2 _ him, seV_nat] at this
  exact this
end

/-- The check by list is the check by function. -/
theorem check_is {vs gs : List Int} {m : Int} {lots : List Int} (hl : lotsB lots = true) (hn : lots.length = vs.length) : chTo vs gs m vs.length vs.length = true ↔ Chk (seV vs) (seV gs) m lots := by
  have hc : chTo vs gs m vs.length vs.length = true ↔ ∀ i, i < vs.length → ∀ k, k < vs.length → 0 < gs[i]?.getD 0 → vs[k]?.getD 0 * divI m (gs[i]?.getD 0 - 1) ≤ vs[i]?.getD 0 * divI m (gs[k]?.getD 0) := by
    simp only [chTo, chRow, chAt, List.all_eq_true, List.mem_range, Bool.not_eq_true', Bool.and_eq_false_iff, decide_eq_false_iff_not, Int.not_lt]
    exact ⟨fun h i hi k hk hp => by rcases h i hi k hk with e | e <;> omega, fun h i hi k hk => by
      rcases Int.lt_or_le 0 (gs[i]?.getD 0) with e | e
      · exact .inr (h i hi k hk e)
      · exact .inl e⟩
  rw [hc]
  constructor
  · intro h i hi k hk hp
    have h1 := lotsB_mem hl i hi
    have h2 := lotsB_mem hl k hk
    exact h i.toNat (by omega) k.toNat (by omega) hp
  · intro h i hi k hk hp
    have := h (i : Int) (lots_mem hl (by omega)) (k : Int) (lots_mem hl (by omega))
    simp only [seV_nat] at this
    exact this hp

/-- Of two quotients the less one. -/
theorem less_of {a b c d : Int} (hb : 0 < b) (hd : 0 < d) : lessF (ofF a b) (ofF c d) = decide (a * d < c * b) := by
  rw [(less_same (ofF_red hb).1 (b := (a, b)) hb ofF_same).1, (less_same (ofF_red hd).1 (b := (c, d)) (c := (a, b)) hd ofF_same).2]
  rfl
/-- All quotients. -/
def qsL (vs gs : List Int) (m : Int) : List Fr := (List.range vs.length).map fun i => ofF (vs[i]?.getD 0) (divI m (gs[i]?.getD 0))
theorem qsL_length (vs gs : List Int) (m : Int) : (qsL vs gs m).length = vs.length := by simp [qsL]
theorem quot_ok {v d : Int} (hv : 0 ≤ v ∧ v ≤ 99) (hd : 1 ≤ d ∧ d ≤ 41) : ofOk v d = true := (ofOk_iff v d).2 ⟨by omega, by omega⟩
theorem quot_fr {v d : Int} (hv : 0 ≤ v ∧ v ≤ 99) (hd : 1 ≤ d ∧ d ≤ 41) : ofR v d = ofF v d ∧ fracB (ofF v d) = true := by
  have h := quot_ok hv hd
  have := (of_valid h).1
  rw [ofR_yes h] at this
  exact ⟨ofR_yes h, this⟩
theorem divI_in {m g : Int} (hm : methB m = true) (hg : 0 ≤ g ∧ g ≤ 20) : 1 ≤ divI m g ∧ divI m g ≤ 41 := by
  unfold divI
  rcases (methB_iff m).1 hm with e | e <;> subst e <;> omega

end Go.Proofs.Ytbcemgmfkddafaa
