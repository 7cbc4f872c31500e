/-
  Piles, as lists: where ballots are put; two candidates exchanged. Of no memory.
  Sums over all ballots of piles, as lists: of parts, of merged piles, of piles with two candidates exchanged. Of no memory.
  Seats by divisors: who gets the next one, and that the check holds. Votes and seats are functions of a party's number; lots are a list. Of no memory.
  Seats by remainders: shares rounded down, the seats that are left to the greatest remainders; shares. Votes and seats are functions of a party's number; lots are a list. Of no memory.
-/
import Derived.Test.YtbcemgmfkddafaaGrp1
namespace Go.Proofs.Ytbcemgmfkddafaa

theorem tAt_cons (p : Pl) (ps : List Pl) (i : Nat) : tAt (p :: ps) (i + 1) = tAt ps i := by simp [tAt]
theorem mAt_cons (p : Pl) (ps : List Pl) (i : Nat) : mAt (p :: ps) (i + 1) = mAt ps i := by simp [mAt]
/-- Ballots are put to the pile with their text. -/
theorem put_same {t : ByteArray} {m : Int} : ∀ {ps : List Pl} {k : Nat}, (∀ j, j < k → tl (tAt ps j) t = true) → k < ps.length → tAt ps k = t → putL ps t m = ps.set k (t, mAt ps k + m)
  | [], k, _, h, _ => by simp at h
  | p :: ps, 0, _, _, he => by
    have e : p.1 = t := by simpa [tAt] using he
    have hn : ¬ tl p.1 t = true := by rw [e, tl_irrefl]; simp
    rw [putL, if_neg hn, if_pos e]
    simp [mAt]
  | p :: ps, k + 1, h, hk, he => by
    have h0 : tl p.1 t = true := by simpa [tAt] using h 0 (by omega)
    rw [tAt_cons] at he
    have ih := put_same (m := m) (ps := ps) (k := k) (fun j hj => by have := h (j + 1) (by omega); rwa [tAt_cons] at this) (by simpa using hk) he
    rw [putL, if_pos h0, ih, mAt_cons]
    rfl
/-- Ballots are put in a new pile. -/
theorem put_new {t : ByteArray} {m : Int} : ∀ {ps : List Pl} {k : Nat}, (∀ j, j < k → tl (tAt ps j) t = true) → k ≤ ps.length → (k < ps.length → tl (tAt ps k) t = false ∧ tAt ps k ≠ t) → putL ps t m = ps.take k ++ (t, m) :: ps.drop k
  | [], k, _, hk, _ => by
    obtain rfl : k = 0 := by simpa using hk
    rfl
  | p :: ps, 0, _, _, h => by
    obtain ⟨h1, h2⟩ := h (by simp)
    have e1 : ¬ tl p.1 t = true := by simpa [tAt] using h1
    have e2 : ¬ p.1 = t := by simpa [tAt] using h2
    rw [putL, if_neg e1, if_neg e2]; rfl
  | p :: ps, k + 1, h, hk, hs => by
    have h0 : tl p.1 t = true := by simpa [tAt] using h 0 (by omega)
    have ih := put_new (m := m) (ps := ps) (k := k) (fun j hj => by have := h (j + 1) (by omega); rwa [tAt_cons] at this) (by simpa using hk)
      (fun hl => by have := hs (by simpa using hl); rwa [tAt_cons] at this)
    rw [putL, if_pos h0, ih]; rfl

/-- One of two candidates in place of the other. -/
def swapC (x y z : Int) : Int := if z = x then y else if z = y then x else z
theorem swapC_twice (x y z : Int) : swapC x y (swapC x y z) = z := by
  unfold swapC
  by_cases h1 : z = x
  · subst h1
    rw [if_pos rfl]
    by_cases h2 : y = z
    · rw [if_pos h2]; exact h2
    · rw [if_neg h2, if_pos rfl]
  · rw [if_neg h1]
    by_cases h2 : z = y
    · subst h2; rw [if_pos rfl, if_pos rfl]
    · rw [if_neg h2, if_neg h1, if_neg h2]
theorem swapC_same (x z : Int) : swapC x x z = z := by
  unfold swapC
  by_cases h : z = x
  · rw [if_pos h]; exact h.symm
  · rw [if_neg h, if_neg h]
def turnB (x y : Int) (zs : List Int) : List Int := zs.map (swapC x y)
theorem turnB_twice (x y : Int) (zs : List Int) : turnB x y (turnB x y zs) = zs := by
  unfold turnB
  rw [List.map_map]
  conv => rhs; rw [← List.map_id zs]
  apply List.map_congr_left
  intro z _
  exact swapC_twice x y z
theorem turnB_same (x : Int) (zs : List Int) : turnB x x zs = zs := by
  unfold turnB
  conv => rhs; rw [← List.map_id zs]
  apply List.map_congr_left
  intro z _
  exact swapC_same x z
theorem turnB_valid {x y : Int} (hx : 0 ≤ x ∧ x ≤ 4) (hy : 0 ≤ y ∧ y ≤ 4) {zs : List Int} (h : validB zs 5 = true) : validB (turnB x y zs) 5 = true := by
  have hm := vB_mem h
  have hd := vB_nodup h
  refine vB_of (by omega) (by omega) ?_ (fun z hz => ?_)
  · unfold turnB List.Nodup
    rw [List.pairwise_map]
    refine List.Pairwise.imp (fun {a b} hab e => hab ?_) hd
    rw [← swapC_twice x y a, e, swapC_twice]
  · obtain ⟨q, hq, rfl⟩ := List.mem_map.1 hz
    have := hm.2.2 q hq
    unfold swapC
    split
    · omega
    · split <;> omega
/-- A text with two candidates exchanged. -/
def turnT (x y : Int) (s : ByteArray) : ByteArray := txtB (turnB x y (parseL s))
theorem turnT_valid {x y : Int} (hx : 0 ≤ x ∧ x ≤ 4) (hy : 0 ≤ y ∧ y ≤ 4) {s : ByteArray} (h : validB (nums s) 5 = true) : validB (nums (turnT x y s)) 5 = true := by
  unfold turnT
  rw [parseL_ok h]
  exact txtB_ok (turnB_valid hx hy h)
theorem turnT_twice {x y : Int} (hx : 0 ≤ x ∧ x ≤ 4) (hy : 0 ≤ y ∧ y ≤ 4) {s : ByteArray} (h : validB (nums s) 5 = true) : turnT x y (turnT x y s) = s := by
  have h1 := turnB_valid hx hy h
  unfold turnT
  rw [parseL_ok h, txtB_parse h1, turnB_twice, txtB_nums' h]

/-- The piles with two candidates exchanged on all ballots. -/
def turnPs (x y : Int) (ps : List Pl) : List Pl := mergeL [] (ps.map fun p => (turnT x y p.1, p.2))
theorem asc_nil : Asc [] := List.Pairwise.nil
theorem turnPs_asc (x y : Int) (ps : List Pl) : Asc (turnPs x y ps) := asc_merge asc_nil _
theorem turnPs_pos {x y : Int} {ps : List Pl} (h : ∀ p ∈ ps, 1 ≤ p.2) : ∀ q ∈ turnPs x y ps, 1 ≤ q.2 := by
  refine pos_merge (fun p hp => by cases hp) (fun p hp => ?_)
  obtain ⟨q, hq, rfl⟩ := List.mem_map.1 hp
  exact h q hq
theorem tot_turned {x y : Int} (hx : 0 ≤ x ∧ x ≤ 4) (hy : 0 ≤ y ∧ y ≤ 4) {ps : List Pl} (hv : ∀ p ∈ ps, validB (nums p.1) 5 = true) {u : ByteArray} (hu : validB (nums u) 5 = true) : tot (turnPs x y ps) u = tot ps (turnT x y u) := by
  unfold turnPs
  rw [tot_merge]
  simp only [tot, Int.zero_add]
  induction ps with
  | nil => rfl
  | cons p ps ih =>
    rw [List.map_cons, tot, tot, ih (fun q hq => hv q (by simp [hq]))]
    have hp := hv p (by simp)
    by_cases e : turnT x y p.1 = u
    · have e2 : p.1 = turnT x y u := by rw [← e, turnT_twice hx hy hp]
      rw [if_pos e, if_pos e2]
    · have e2 : ¬ p.1 = turnT x y u := fun h => e (by rw [h, turnT_twice hx hy hu])
      rw [if_neg e, if_neg e2]
theorem merge_texts {a b : List Pl} : ∀ q ∈ mergeL a b, (∃ p ∈ a, p.1 = q.1) ∨ ∃ p ∈ b, p.1 = q.1 := by
  induction b generalizing a with
  | nil => intro q hq; exact .inl ⟨q, hq, rfl⟩
  | cons r b ih =>
    intro q hq
    rcases ih q hq with ⟨p, hp, e⟩ | ⟨p, hp, e⟩
    · rcases put_texts p hp with e2 | ⟨s, hs, e2⟩
      · exact .inr ⟨r, by simp, by rw [← e, e2]⟩
      · exact .inl ⟨s, hs, by rw [e2, e]⟩
    · exact .inr ⟨p, by simp [hp], e⟩
theorem turnPs_texts {x y : Int} (hx : 0 ≤ x ∧ x ≤ 4) (hy : 0 ≤ y ∧ y ≤ 4) {ps : List Pl} (hv : ∀ p ∈ ps, validB (nums p.1) 5 = true) : ∀ q ∈ turnPs x y ps, validB (nums q.1) 5 = true := by
  intro q hq
  rcases merge_texts q hq with ⟨p, hp, _⟩ | ⟨p, hp, e⟩
  · cases hp
  · obtain ⟨r, hr, rfl⟩ := List.mem_map.1 hp
    rw [← e]
    exact turnT_valid hx hy (hv r hr)
theorem tot_most {ps : List Pl} (h : Asc ps) (h99 : ∀ p ∈ ps, p.2 ≤ 99) (u : ByteArray) : tot ps u ≤ 99 := by
  by_cases hu : ∃ p ∈ ps, p.1 = u
  · obtain ⟨p, hp, rfl⟩ := hu
    rw [tot_mem h p hp]; exact h99 p hp
  · rw [tot_none (fun p hp e => hu ⟨p, hp, e⟩)]; omega
theorem turnPs_short (x y : Int) (ps : List Pl) : (turnPs x y ps).length ≤ ps.length := by
  have := (merge_longer [] (ps.map fun p => (turnT x y p.1, p.2))).2
  simpa [turnPs] using this
/-- **Exchanged piles are valid.** -/
theorem turn_valid {x y : Int} (hx : 0 ≤ x ∧ x ≤ 4) (hy : 0 ≤ y ∧ y ≤ 4) {ps : List Pl} (h : pilesB ps = true) : pilesB (turnPs x y ps) = true := by
  obtain ⟨h1, h2, h3, h4, h5⟩ := pilesB_pos h
  refine (pilesB_iff _).2 ⟨fun q hq => ?_, turnPs_asc x y ps, by have := turnPs_short x y ps; omega⟩
  have hv := turnPs_texts hx hy h4 q hq
  refine (pileB_iff _ _).2 ⟨hv, turnPs_pos h2 q hq, ?_⟩
  rw [← tot_mem (turnPs_asc x y ps) q hq, tot_turned hx hy h4 hv]
  exact tot_most h1 h3 _
/-- **Exchanging twice changes nothing.** -/
theorem turn_twice {x y : Int} (hx : 0 ≤ x ∧ x ≤ 4) (hy : 0 ≤ y ∧ y ≤ 4) {ps : List Pl} (h : pilesB ps = true) : turnPs x y (turnPs x y ps) = ps := by
  obtain ⟨h1, h2, h3, h4, h5⟩ := pilesB_pos h
  have hv := turnPs_texts hx hy h4
  refine piles_ext (turnPs_asc _ _ _) h1 (turnPs_pos (turnPs_pos h2)) h2 (fun u => ?_)
  cases hu : validB (nums u) 5
  · rw [tot_none (fun q hq e => ?_), tot_none (fun p hp e => ?_)]
    · have := h4 p hp; rw [e, hu] at this; cases this
    · have := turnPs_texts hx hy hv q hq; rw [e, hu] at this; cases this
  · rw [tot_turned hx hy hv hu, tot_turned hx hy h4 (turnT_valid hx hy hu), turnT_twice hx hy hu]
theorem turn_sum (x y : Int) (ps : List Pl) : sumL (turnPs x y ps) = sumL ps := by
  unfold turnPs
  rw [sumL_merge]
  have : sumL (ps.map fun p => (turnT x y p.1, p.2)) = sumL ps := by
    induction ps with
    | nil => rfl
    | cons p ps ih => rw [List.map_cons, sumL_cons, sumL_cons, ih]
  rw [this]; simp [sumL]
theorem turn_length {x y : Int} (hx : 0 ≤ x ∧ x ≤ 4) (hy : 0 ≤ y ∧ y ≤ 4) {ps : List Pl} (h : pilesB ps = true) : (turnPs x y ps).length = ps.length := by
  have h1 := turnPs_short x y ps
  have h2 := turnPs_short x y (turnPs x y ps)
  rw [turn_twice hx hy h] at h2
  omega

/-- What PilesAdd returns. -/
def addB (ps : List Pl) (t : ByteArray) (m : Int) : Bool := pilesB ps && (pileB t m && pilesB (putL ps t m))
def addL (ps : List Pl) (t : ByteArray) (m : Int) : List Pl := if addB ps t m = true then putL ps t m else []
/-- What PilesMerge returns. -/
def joinB (a b : List Pl) : Bool := pilesB a && (pilesB b && pilesB (mergeL a b))
def joinL (a b : List Pl) : List Pl := if joinB a b = true then mergeL a b else []
/-- What PilesTotal returns. -/
def totalL (ps : List Pl) : Int := if pilesB ps = true then sumL ps else -1
/-- What PilesTurn returns. -/
def canB (ps : List Pl) (x y : Int) : Bool := pilesB ps && (inB x 0 4 && inB y 0 4)
def canL (ps : List Pl) (x y : Int) : List Pl := if canB ps x y = true then turnPs x y ps else []
theorem addB_iff (ps : List Pl) (t : ByteArray) (m : Int) : addB ps t m = true ↔ pilesB ps = true ∧ pileB t m = true ∧ pilesB (putL ps t m) = true := by simp [addB]
theorem joinB_iff (a b : List Pl) : joinB a b = true ↔ pilesB a = true ∧ pilesB b = true ∧ pilesB (mergeL a b) = true := by simp [joinB]
theorem canB_iff (ps : List Pl) (x y : Int) : canB ps x y = true ↔ pilesB ps = true ∧ (0 ≤ x ∧ x ≤ 4) ∧ (0 ≤ y ∧ y ≤ 4) := by simp [canB, inB]
/-- P15. -/
theorem law_add {ps : List Pl} {t : ByteArray} {m : Int} (h : addB ps t m = true) : pilesB (addL ps t m) = true ∧ totalL (addL ps t m) = totalL ps + m := by
  obtain ⟨h1, h2, h3⟩ := (addB_iff _ _ _).1 h
  rw [addL, if_pos h]
  exact ⟨h3, by rw [totalL, if_pos h3, totalL, if_pos h1, sumL_put]⟩
/-- P16. -/
theorem law_two {ps : List Pl} {t : ByteArray} {k n : Int} (h : addB ps t (k + n) = true) (hk : 1 ≤ k) (hn : 1 ≤ n) : addB ps t k = true ∧ addB (addL ps t k) t n = true ∧ addL (addL ps t k) t n = addL ps t (k + n) := by
  obtain ⟨h1, h2, h3⟩ := (addB_iff _ _ _).1 h
  obtain ⟨v1, v2, v3⟩ := (pileB_iff _ _).1 h2
  obtain ⟨a1, a2, _⟩ := pilesB_pos h1
  have e := put_two h1 t k n hk hn
  have h4 : pilesB (putL ps t k) = true := valid_before (b := [(t, n)]) (by show pilesB (putL (putL ps t k) t n) = true; rw [e]; exact h3) (asc_put a1 _ _) (pos_put a2 hk) (fun p hp => by rw [List.mem_singleton.1 hp]; exact hn)
  have b1 : addB ps t k = true := (addB_iff _ _ _).2 ⟨h1, (pileB_iff _ _).2 ⟨v1, hk, by omega⟩, h4⟩
  have e1 : addL ps t k = putL ps t k := by rw [addL, if_pos b1]
  have b2 : addB (putL ps t k) t n = true := (addB_iff _ _ _).2 ⟨h4, (pileB_iff _ _).2 ⟨v1, hn, by omega⟩, by rw [e]; exact h3⟩
  exact ⟨b1, by rw [e1]; exact b2, by rw [e1, addL, if_pos b2, e, addL, if_pos h]⟩
/-- P17. -/
theorem law_join {a b : List Pl} (h : joinB a b = true) : joinB b a = true ∧ joinL b a = joinL a b ∧ totalL (joinL a b) = totalL a + totalL b ∧ pilesB (joinL a b) = true := by
  obtain ⟨h1, h2, h3⟩ := (joinB_iff _ _).1 h
  have e := merge_comm h1 h2
  have hb : joinB b a = true := (joinB_iff _ _).2 ⟨h2, h1, by rw [← e]; exact h3⟩
  have e1 : joinL a b = mergeL a b := by rw [joinL, if_pos h]
  exact ⟨hb, by rw [e1, joinL, if_pos hb, e], by rw [e1, totalL, if_pos h3, totalL, if_pos h1, totalL, if_pos h2, sumL_merge], by rw [e1]; exact h3⟩
/-- P18. -/
theorem law_parts {a b : List Pl} (h : joinB a b = true) (k : Nat) : joinB a (b.take k) = true ∧ joinB (joinL a (b.take k)) (b.drop k) = true ∧ joinL (joinL a (b.take k)) (b.drop k) = joinL a b := by
  obtain ⟨h1, h2, h3⟩ := (joinB_iff _ _).1 h
  obtain ⟨a1, a2, _⟩ := pilesB_pos h1
  obtain ⟨_, p2, _⟩ := pilesB_pos h2
  have e : mergeL (mergeL a (b.take k)) (b.drop k) = mergeL a b := by rw [← mergeL_app, List.take_append_drop]
  have ht := piles_sub h2 (List.take_sublist k b)
  have hd := piles_sub h2 (List.drop_sublist k b)
  have h4 : pilesB (mergeL a (b.take k)) = true := valid_before (b := b.drop k) (by rw [e]; exact h3) (asc_merge a1 _) (pos_merge a2 (fun p hp => p2 p (List.mem_of_mem_take hp))) (fun p hp => p2 p (List.mem_of_mem_drop hp))
  have b1 : joinB a (b.take k) = true := (joinB_iff _ _).2 ⟨h1, ht, h4⟩
  have e1 : joinL a (b.take k) = mergeL a (b.take k) := by rw [joinL, if_pos b1]
  have b2 : joinB (mergeL a (b.take k)) (b.drop k) = true := (joinB_iff _ _).2 ⟨h4, hd, by rw [e]; exact h3⟩
  exact ⟨b1, by rw [e1]; exact b2, by rw [e1, joinL, if_pos b2, e, joinL, if_pos h]⟩
/-- P19: one pile more. -/
theorem law_each {a b : List Pl} (h : joinB a b = true) (k : Nat) (hk : k < b.length) : addB (mergeL a (b.take k)) (tAt b k) (mAt b k) = true ∧ addL (mergeL a (b.take k)) (tAt b k) (mAt b k) = mergeL a (b.take (k + 1)) := by
  obtain ⟨h1, h2, h3⟩ := (joinB_iff _ _).1 h
  obtain ⟨a1, a2, _⟩ := pilesB_pos h1
  obtain ⟨_, p2, _⟩ := pilesB_pos h2
  have valid : ∀ j, pilesB (mergeL a (b.take j)) = true := fun j => by
    have e : mergeL (mergeL a (b.take j)) (b.drop j) = mergeL a b := by rw [← mergeL_app, List.take_append_drop]
    exact valid_before (b := b.drop j) (by rw [e]; exact h3) (asc_merge a1 _) (pos_merge a2 (fun p hp => p2 p (List.mem_of_mem_take hp))) (fun p hp => p2 p (List.mem_of_mem_drop hp))
  have e1 : mergeL a (b.take (k + 1)) = putL (mergeL a (b.take k)) (tAt b k) (mAt b k) := by
    rw [List.take_succ_eq_append_getElem hk, mergeL_snoc]
    simp [tAt, mAt, hk]
  have hp : pileB (tAt b k) (mAt b k) = true := by
    have := ((pilesB_iff b).1 h2).1 _ (List.getElem_mem hk)
    simpa [tAt, mAt, hk] using this
  have b1 : addB (mergeL a (b.take k)) (tAt b k) (mAt b k) = true := (addB_iff _ _ _).2 ⟨valid k, hp, by rw [← e1]; exact valid (k + 1)⟩
  exact ⟨b1, by rw [addL, if_pos b1, e1]⟩
/-- P20. -/
theorem law_turn {ps : List Pl} {x y : Int} (h : canB ps x y = true) : canB (canL ps x y) x y = true ∧ canL (canL ps x y) x y = ps ∧ totalL (canL ps x y) = totalL ps ∧ (canL ps x y).length = ps.length := by
  obtain ⟨h1, hx, hy⟩ := (canB_iff _ _ _).1 h
  have hv := turn_valid hx hy h1
  have e1 : canL ps x y = turnPs x y ps := by rw [canL, if_pos h]
  have b2 : canB (turnPs x y ps) x y = true := (canB_iff _ _ _).2 ⟨hv, hx, hy⟩
  rw [e1]
  exact ⟨b2, by rw [canL, if_pos b2, turn_twice hx hy h1], by rw [totalL, if_pos hv, totalL, if_pos h1, turn_sum], turn_length hx hy h1⟩

end Go.Proofs.Ytbcemgmfkddafaa

namespace Go.Proofs.Ytbcemgmfkddafaa

/-- Each ballot counts for what f says of its text. -/
def wsum (f : ByteArray → Int) (ps : List Pl) : Int := ps.foldr (fun p s => f p.1 * p.2 + s) 0
theorem wsum_nil (f : ByteArray → Int) : wsum f [] = 0 := rfl
theorem wsum_cons (f : ByteArray → Int) (p : Pl) (ps : List Pl) : wsum f (p :: ps) = f p.1 * p.2 + wsum f ps := rfl
theorem wsum_app (f : ByteArray → Int) (a b : List Pl) : wsum f (a ++ b) = wsum f a + wsum f b := by
  induction a with
  | nil => rw [List.nil_append, wsum_nil, Int.zero_add]
  | cons p a ih => rw [List.cons_append, wsum_cons, wsum_cons, ih, Int.add_assoc]
theorem wsum_snoc (f : ByteArray → Int) (a : List Pl) (p : Pl) : wsum f (a ++ [p]) = wsum f a + f p.1 * p.2 := by
  rw [wsum_app, wsum_cons, wsum_nil, Int.add_zero]
theorem wsum_put (f : ByteArray → Int) (ps : List Pl) (t : ByteArray) (m : Int) : wsum f (putL ps t m) = wsum f ps + f t * m := by
  induction ps with
  | nil => rw [putL, wsum_cons, wsum_nil]; show f t * m + 0 = 0 + f t * m; omega
  | cons p ps ih =>
    unfold putL
    split
    · rw [wsum_cons, ih, wsum_cons]; omega
    · split
      · rename_i h1 h2
        rw [wsum_cons, wsum_cons, h2]
        show f t * (p.2 + m) + wsum f ps = f t * p.2 + wsum f ps + f t * m
        rw [Int.mul_add]; omega
      · rw [wsum_cons, wsum_cons]
        show f t * m + (f p.1 * p.2 + wsum f ps) = f p.1 * p.2 + wsum f ps + f t * m
        omega
theorem wsum_merge (f : ByteArray → Int) (a b : List Pl) : wsum f (mergeL a b) = wsum f a + wsum f b := by
  induction b generalizing a with
  | nil => rw [mergeL, wsum_nil, Int.add_zero]
  | cons p b ih => rw [mergeL, ih, wsum_put, wsum_cons]; omega
theorem wsum_map (f : ByteArray → Int) (g : ByteArray → ByteArray) (ps : List Pl) : wsum f (ps.map fun p => (g p.1, p.2)) = wsum (fun t => f (g t)) ps := by
  induction ps with
  | nil => rfl
  | cons p ps ih => rw [List.map_cons, wsum_cons, wsum_cons, ih]
theorem wsum_turn (f : ByteArray → Int) (x y : Int) (ps : List Pl) : wsum f (turnPs x y ps) = wsum (fun t => f (turnT x y t)) ps := by
  unfold turnPs
  rw [wsum_merge, wsum_nil, wsum_map, Int.zero_add]
theorem wsum_congr {f g : ByteArray → Int} {ps : List Pl} (h : ∀ p ∈ ps, f p.1 = g p.1) : wsum f ps = wsum g ps := by
  induction ps with
  | nil => rfl
  | cons p ps ih => rw [wsum_cons, wsum_cons, h p (by simp), ih (fun q hq => h q (by simp [hq]))]
theorem wsum_le {f g : ByteArray → Int} {ps : List Pl} (h : ∀ p ∈ ps, f p.1 ≤ g p.1) (hp : ∀ p ∈ ps, 1 ≤ p.2) : wsum f ps ≤ wsum g ps := by
  induction ps with
  | nil => exact Int.le_refl _
  | cons p ps ih =>
    rw [wsum_cons, wsum_cons]
    have h1 := Int.mul_le_mul_of_nonneg_right (h p (by simp)) (show 0 ≤ p.2 by have := hp p (by simp); omega)
    have h2 := ih (fun q hq => h q (by simp [hq])) (fun q hq => hp q (by simp [hq]))
    omega
theorem wsum_zero (ps : List Pl) : wsum (fun _ => 0) ps = 0 := by
  induction ps with
  | nil => rfl
  | cons p ps ih => rw [wsum_cons, ih, Int.zero_mul, Int.zero_add]
theorem wsum_one (ps : List Pl) : wsum (fun _ => 1) ps = sumL ps := by
  induction ps with
  | nil => rfl
  | cons p ps ih => rw [wsum_cons, ih, Int.one_mul, sumL_cons]
theorem wsum_nonneg {f : ByteArray → Int} {ps : List Pl} (h : ∀ p ∈ ps, 0 ≤ f p.1) (hp : ∀ p ∈ ps, 1 ≤ p.2) : 0 ≤ wsum f ps := by
  have := wsum_le (f := fun _ => 0) h hp
  rwa [wsum_zero] at this
theorem wsum_most {f : ByteArray → Int} {ps : List Pl} (h : ∀ p ∈ ps, f p.1 ≤ 1) (hp : ∀ p ∈ ps, 1 ≤ p.2) : wsum f ps ≤ sumL ps := by
  have := wsum_le (g := fun _ => 1) h hp
  rwa [wsum_one] at this
theorem wsum_add (f g : ByteArray → Int) (ps : List Pl) : wsum (fun t => f t + g t) ps = wsum f ps + wsum g ps := by
  induction ps with
  | nil => rfl
  | cons p ps ih => rw [wsum_cons, wsum_cons, wsum_cons, ih, Int.add_mul]; omega

/-- The sum of some numbers. -/
def totI (l : List Int) : Int := l.foldr (· + ·) 0
theorem totI_nil : totI [] = 0 := rfl
theorem totI_cons (z : Int) (l : List Int) : totI (z :: l) = z + totI l := rfl
theorem totI_app (a b : List Int) : totI (a ++ b) = totI a + totI b := by
  induction a with
  | nil => rw [List.nil_append, totI_nil, Int.zero_add]
  | cons z a ih => rw [List.cons_append, totI_cons, totI_cons, ih, Int.add_assoc]
theorem totI_snoc (a : List Int) (z : Int) : totI (a ++ [z]) = totI a + z := by rw [totI_app, totI_cons, totI_nil, Int.add_zero]
/-- Sums over candidates and over ballots are exchanged. -/
theorem totI_wsum (F : Nat → ByteArray → Int) (n : Nat) (ps : List Pl) : totI ((List.range n).map fun k => wsum (F k) ps) = wsum (fun t => totI ((List.range n).map fun k => F k t)) ps := by
  induction n with
  | zero => simp only [List.range_zero, List.map_nil, totI_nil]; exact (wsum_zero ps).symm
  | succ n ih =>
    simp only [List.range_succ, List.map_append, List.map_cons, List.map_nil, totI_snoc]
    rw [ih, ← wsum_add]
theorem totI_le {a b : List Int} (hl : a.length = b.length) (h : ∀ i, i < a.length → a[i]?.getD 0 ≤ b[i]?.getD 0) : totI a ≤ totI b := by
  induction a generalizing b with
  | nil => cases b with
    | nil => exact Int.le_refl _
    | cons _ _ => simp at hl
  | cons x a ih => cases b with
    | nil => simp at hl
    | cons y b =>
      have h0 := h 0 (by simp)
      have ih := ih (b := b) (by simpa using hl) (fun i hi => by have := h (i + 1) (by simp [hi]); simpa using this)
      simp only [totI_cons]
      simp at h0
      omega
/-- One number of n is 1, the others are 0: or all are 0. -/
theorem totI_one (n : Nat) (z : Int) : totI ((List.range n).map fun (k : Nat) => if z = (k : Int) then (1 : Int) else 0) = if 0 ≤ z ∧ z < (n : Int) then 1 else 0 := by
  induction n with
  | zero =>
    rw [if_neg (by omega)]; rfl
  | succ n ih =>
    simp only [List.range_succ, List.map_append, List.map_cons, List.map_nil, totI_snoc]
    rw [ih]
    by_cases h1 : z = (n : Int)
    · rw [if_neg (by omega), if_pos h1, if_pos (by omega)]; rfl
    · rw [if_neg h1]
      by_cases h2 : 0 ≤ z ∧ z < (n : Int)
      · rw [if_pos h2, if_pos (by omega)]; rfl
      · rw [if_neg h2, if_neg (by omega)]; rfl

end Go.Proofs.Ytbcemgmfkddafaa

namespace Go.Proofs.Ytbcemgmfkddafaa

/-- The divisor of a party with g seats. -/
def divI (m g : Int) : Int := m * g + 1
theorem divI_pos {m g : Int} (hm : 0 ≤ m) (hg : 0 ≤ g) : 0 < divI m g := by
  have := Int.mul_nonneg hm hg
  unfold divI; omega
theorem divI_le {m g h : Int} (hm : 0 ≤ m) (hg : g ≤ h) : divI m g ≤ divI m h := by
  have := Int.mul_le_mul_of_nonneg_left hg hm
  unfold divI; omega
theorem divI_lt {m g h : Int} (hm : 0 < m) (hg : g < h) : divI m g < divI m h := by
  have := Int.mul_lt_mul_of_pos_left hg hm
  unfold divI; omega
theorem cross_lt {va vb vk da db dk : Int} (hda : 0 < da) (hdb : 0 < db) (hdk : 0 < dk) (h1 : va * db ≤ vb * da) (h2 : vb * dk < vk * db) : va * dk < vk * da := by
  have e1 : va * db * dk ≤ vb * da * dk := Int.mul_le_mul_of_nonneg_right h1 (Int.le_of_lt hdk)
  have e2 : vb * dk * da < vk * db * da := Int.mul_lt_mul_of_pos_right h2 hda
  have e3 : va * dk * db < vk * da * db := by
    rw [Int.mul_right_comm va, Int.mul_right_comm vk]
    rw [Int.mul_right_comm vb] at e1
    omega
  exact Int.lt_of_mul_lt_mul_right e3 (Int.le_of_lt hdb)

/-- The party with the greatest quotient: of several ones the first one in the lots. -/
def nextF (V G : Int → Int) (m : Int) : Int → List Int → Int
  | best, [] => best
  | best, k :: t => nextF V G m (if V best * divI m (G k) < V k * divI m (G best) then k else best) t
def nextL (V G : Int → Int) (m : Int) (lots : List Int) : Int := nextF V G m (lots[0]?.getD 0) (lots.drop 1)
/-- No party has a greater quotient, and no earlier one as great a one. -/
def Beats (V G : Int → Int) (m : Int) (lots : List Int) (w i : Int) : Prop := V i * divI m (G w) ≤ V w * divI m (G i) ∧ (V i * divI m (G w) = V w * divI m (G i) → lots.idxOf w ≤ lots.idxOf i)
theorem beats_self (V G : Int → Int) (m : Int) (lots : List Int) (w : Int) : Beats V G m lots w w := ⟨Int.le_refl _, fun _ => Nat.le_refl _⟩
theorem idx_pre {pre t : List Int} {k i : Int} (hn : (pre ++ k :: t).Nodup) (hi : i ∈ pre) : (pre ++ k :: t).idxOf i < (pre ++ k :: t).idxOf k := by
  have hk : k ∉ pre := fun h => by
    rw [List.nodup_append] at hn
    exact hn.2.2 k h k (by simp) rfl
  rw [List.idxOf_append, if_pos hi, List.idxOf_append, if_neg hk]
  have := List.idxOf_lt_length_of_mem hi
  simp
  omega
theorem nextF_spec {V G : Int → Int} {m : Int} (hm : 0 ≤ m) (hG : ∀ z, 0 ≤ G z) : ∀ (t pre : List Int) (best : Int), (pre ++ t).Nodup → best ∈ pre → (∀ i ∈ pre, Beats V G m (pre ++ t) best i) →
    nextF V G m best t ∈ pre ++ t ∧ ∀ i ∈ pre ++ t, Beats V G m (pre ++ t) (nextF V G m best t) i
  | [], pre, best, _, hb, h => by rw [List.append_nil] at *; exact ⟨hb, h⟩
  | k :: t, pre, best, hn, hb, h => by
    have e : pre ++ k :: t = (pre ++ [k]) ++ t := by simp
    have hix : ∀ i ∈ pre, (pre ++ k :: t).idxOf i < (pre ++ k :: t).idxOf k := fun i hi => idx_pre hn hi
    unfold nextF
    by_cases hlt : V best * divI m (G k) < V k * divI m (G best)
    · rw [if_pos hlt]
      have := nextF_spec hm hG t (pre ++ [k]) k (by rw [← e]; exact hn) (by simp) (fun i hi => by
        rw [← e]
        rcases List.mem_append.1 hi with hi | hi
        · have hs := cross_lt (divI_pos hm (hG i)) (divI_pos hm (hG best)) (divI_pos hm (hG k)) (h i hi).1 hlt
          exact ⟨Int.le_of_lt hs, fun e2 => by omega⟩
        · have : i = k := by simpa using hi
          subst this; exact beats_self _ _ _ _ _)
      rwa [← e] at this
    · rw [if_neg hlt]
      have := nextF_spec hm hG t (pre ++ [k]) best (by rw [← e]; exact hn) (by simp [hb]) (fun i hi => by
        rw [← e]
        rcases List.mem_append.1 hi with hi | hi
        · exact h i hi
        · have : i = k := by simpa using hi
          subst this
          exact ⟨by omega, fun _ => Nat.le_of_lt (hix best hb)⟩)
      rwa [← e] at this
/-- **The next seat goes to the greatest quotient** (promise 87). -/
theorem next_spec {V G : Int → Int} {m : Int} {lots : List Int} (hm : 0 ≤ m) (hG : ∀ z, 0 ≤ G z) (hn : lots.Nodup) (h0 : lots ≠ []) : nextL V G m lots ∈ lots ∧ ∀ i ∈ lots, Beats V G m lots (nextL V G m lots) i := by
  match lots, h0 with
  | b :: t, _ =>
    have := nextF_spec (V := V) hm hG t [b] b hn (by simp) (fun i hi => by
      have : i = b := by simpa using hi
      subst this; exact beats_self _ _ _ _ _)
    simpa [nextL] using this

/-- The check: no seat would rather be another party's. -/
def Chk (V G : Int → Int) (m : Int) (lots : List Int) : Prop := ∀ i ∈ lots, ∀ k ∈ lots, 0 < G i → V k * divI m (G i - 1) ≤ V i * divI m (G k)
/-- One seat more. -/
def plus (G : Int → Int) (k : Int) : Int → Int := fun z => if z = k then G z + 1 else G z
theorem plus_at (G : Int → Int) (k : Int) : plus G k k = G k + 1 := by simp [plus]
theorem plus_not {G : Int → Int} {k z : Int} (h : z ≠ k) : plus G k z = G z := by simp [plus, h]
theorem plus_ge (G : Int → Int) (k z : Int) : G z ≤ plus G k z := by unfold plus; split <;> omega
/-- **The next seat keeps the check** (promise 88). -/
theorem chk_next {V G : Int → Int} {m : Int} {lots : List Int} (hm : 0 ≤ m) (hG : ∀ z, 0 ≤ G z) (hV : ∀ z, 0 ≤ V z) (hn : lots.Nodup) (h0 : lots ≠ []) (h : Chk V G m lots) : Chk V (plus G (nextL V G m lots)) m lots := by
  obtain ⟨_, hw⟩ := next_spec (V := V) hm hG hn h0
  obtain ⟨w, hwe⟩ : ∃ w, nextL V G m lots = w := ⟨_, rfl⟩
  rw [hwe] at hw ⊢
  intro i hi k hk hpos
  have hup : V i * divI m (G k) ≤ V i * divI m (plus G w k) := Int.mul_le_mul_of_nonneg_left (divI_le hm (plus_ge G w k)) (hV i)
  by_cases e : i = w
  · subst e
    rw [plus_at, Int.add_sub_cancel]
    have := (hw k hk).1
    omega
  · rw [plus_not e] at hpos ⊢
    have := h i hi k hk hpos
    omega

/-- The seats behind n rounds. -/
def seatF (V : Int → Int) (m : Int) (lots : List Int) : Nat → Int → Int
  | 0 => fun _ => 0
  | n + 1 => plus (seatF V m lots n) (nextL V (seatF V m lots n) m lots)
theorem seatF_succ (V : Int → Int) (m : Int) (lots : List Int) (n : Nat) : seatF V m lots (n + 1) = plus (seatF V m lots n) (nextL V (seatF V m lots n) m lots) := rfl
theorem seatF_nonneg (V : Int → Int) (m : Int) (lots : List Int) : ∀ n z, 0 ≤ seatF V m lots n z
  | 0, _ => Int.le_refl _
  | n + 1, z => by
    have := seatF_nonneg V m lots n z
    have := plus_ge (seatF V m lots n) (nextL V (seatF V m lots n) m lots) z
    rw [seatF_succ]; omega
theorem seatF_chk {V : Int → Int} {m : Int} {lots : List Int} (hm : 0 ≤ m) (hV : ∀ z, 0 ≤ V z) (hn : lots.Nodup) (h0 : lots ≠ []) : ∀ n, Chk V (seatF V m lots n) m lots
  | 0 => fun i _ k _ h => by have : (0 : Int) < 0 := h; omega
  | n + 1 => chk_next hm (seatF_nonneg V m lots n) hV hn h0 (seatF_chk hm hV hn h0 n)
theorem tot_plus : ∀ {l : List Int} (G : Int → Int) {k : Int}, l.Nodup → k ∈ l → totI (l.map (plus G k)) = totI (l.map G) + 1
  | [], _, _, _, h => by cases h
  | a :: t, G, k, hn, h => by
    rw [List.nodup_cons] at hn
    rw [List.map_cons, List.map_cons, totI_cons, totI_cons]
    by_cases e : a = k
    · subst e
      have : t.map (plus G a) = t.map G := List.map_congr_left (fun z hz => plus_not (fun e => hn.1 (e ▸ hz)))
      rw [this, plus_at]; omega
    · have hk : k ∈ t := by
        rcases List.mem_cons.1 h with g | g
        · exact absurd g.symm e
        · exact g
      rw [plus_not e, tot_plus G hn.2 hk]; omega
/-- **All seats are given** (promise 82). -/
theorem seatF_tot {V : Int → Int} {m : Int} {lots : List Int} (hm : 0 ≤ m) (hn : lots.Nodup) (h0 : lots ≠ []) : ∀ n : Nat, totI (lots.map (seatF V m lots n)) = (n : Int)
  | 0 => by
    have : ∀ l : List Int, totI (l.map (seatF V m lots 0)) = 0 := fun l => by
      induction l with
      | nil => rfl
      | cons a t ih => rw [List.map_cons, totI_cons, ih]; rfl
    exact this lots
  | n + 1 => by
    rw [seatF_succ, tot_plus _ hn (next_spec hm (seatF_nonneg V m lots n) hn h0).1, seatF_tot hm hn h0 n]; omega
/-- **No seats without votes** (promise 82). -/
theorem seatF_none {V : Int → Int} {m : Int} {lots : List Int} (hm : 0 ≤ m) (hV : ∀ z, 0 ≤ V z) (hn : lots.Nodup) (hp : ∃ k ∈ lots, 0 < V k) {i : Int} (hi : V i = 0) : ∀ n, seatF V m lots n i = 0
  | 0 => rfl
  | n + 1 => by
    obtain ⟨k, hk, hkv⟩ := hp
    have h0 : lots ≠ [] := fun e => by rw [e] at hk; cases hk
    obtain ⟨_, hw⟩ := next_spec (V := V) hm (seatF_nonneg V m lots n) hn h0
    have hb := (hw k hk).1
    have ih := seatF_none hm hV hn ⟨k, hk, hkv⟩ hi n
    have hne : i ≠ nextL V (seatF V m lots n) m lots := fun e => by
      rw [← e, hi, Int.zero_mul] at hb
      have := Int.mul_pos hkv (divI_pos hm (seatF_nonneg V m lots n i))
      omega
    rw [seatF_succ, plus_not hne, ih]
/-- What the check says of two parties. -/
theorem chk_order {V G : Int → Int} {m : Int} {lots : List Int} (hm : 0 ≤ m) (hG : ∀ z, 0 ≤ G z) (hV : ∀ z, 0 ≤ V z) (h : Chk V G m lots) {i k : Int} (hi : i ∈ lots) (hk : k ∈ lots) (hv : V k < V i) : G k ≤ G i := by
  rcases Int.lt_or_le (G i) (G k) with hlt | hle
  · exfalso
    have h1 := h k hk i hi (by have := hG i; omega)
    have h2 : V i * divI m (G i) ≤ V i * divI m (G k - 1) := Int.mul_le_mul_of_nonneg_left (divI_le hm (by omega)) (hV i)
    have h3 : V k * divI m (G i) < V i * divI m (G i) := Int.mul_lt_mul_of_pos_right hv (divI_pos hm (hG i))
    omega
  · exact hle
theorem chk_near {V G : Int → Int} {m : Int} {lots : List Int} (hm : 0 < m) (hG : ∀ z, 0 ≤ G z) (h : Chk V G m lots) {i k : Int} (hi : i ∈ lots) (hk : k ∈ lots) (hv : V k = V i) (hp : 0 < V i) : G i ≤ G k + 1 := by
  rcases Int.lt_or_le (G k + 1) (G i) with hlt | hle
  · exfalso
    have h1 := h i hi k hk (by have := hG k; omega)
    rw [hv] at h1
    have h3 : V i * divI m (G k) < V i * divI m (G i - 1) := Int.mul_lt_mul_of_pos_left (divI_lt hm (by omega)) hp
    omega
  · exact hle
/-- **Of two with equal votes the one with the earlier lot has as many or one more** (promise 84). -/
theorem seatF_early {V : Int → Int} {m : Int} {lots : List Int} (hm : 0 < m) (hn : lots.Nodup) {i k : Int} (hi : i ∈ lots) (_hk : k ∈ lots) (hv : V k = V i) (hp : 0 < V i) (hix : lots.idxOf i < lots.idxOf k) : ∀ n, seatF V m lots n k ≤ seatF V m lots n i
  | 0 => Int.le_refl _
  | n + 1 => by
    have h0 : lots ≠ [] := fun e => by rw [e] at hi; cases hi
    have ih := seatF_early hm hn hi _hk hv hp hix n
    have hG := seatF_nonneg V m lots n
    obtain ⟨_, hw⟩ := next_spec (V := V) (Int.le_of_lt hm) hG hn h0
    rw [seatF_succ]
    obtain ⟨w, hwe⟩ : ∃ w, nextL V (seatF V m lots n) m lots = w := ⟨_, rfl⟩
    rw [hwe] at hw ⊢
    by_cases e : k = w
    · subst e
      have hne : i ≠ k := fun e => by subst e; omega
      rw [plus_at, plus_not hne]
      rcases Int.lt_or_le (seatF V m lots n k) (seatF V m lots n i) with hlt | hle
      · omega
      · exfalso
        have he : seatF V m lots n k = seatF V m lots n i := by omega
        have hb := hw i hi
        have := hb.2 (by rw [hv, he])
        omega
    · rw [plus_not e]
      have := plus_ge (seatF V m lots n) w i
      omega
/-- **Only shares count** (promise 85). -/
theorem nextF_scale (V G : Int → Int) (m : Int) : ∀ (t : List Int) (b : Int), nextF (fun z => 2 * V z) G m b t = nextF V G m b t
  | [], _ => rfl
  | k :: t, b => by
    unfold nextF
    have e : (2 * V b * divI m (G k) < 2 * V k * divI m (G b)) ↔ (V b * divI m (G k) < V k * divI m (G b)) := by
      rw [Int.mul_assoc, Int.mul_assoc]; omega
    simp only [e]
    rw [nextF_scale V G m t]
theorem seatF_scale (V : Int → Int) (m : Int) (lots : List Int) : ∀ n, seatF (fun z => 2 * V z) m lots n = seatF V m lots n
  | 0 => rfl
  | n + 1 => by
    rw [seatF_succ, seatF_succ, seatF_scale V m lots n]
    congr 1
    exact nextF_scale V _ m _ _
/-- **Divisors by whole numbers keep whole parts** (promise 86). -/
theorem tot_cross : ∀ (l : List Int) (V G : Int → Int) (a b : Int), (∀ k ∈ l, a * G k ≤ V k * b) → a * totI (l.map G) ≤ totI (l.map V) * b
  | [], _, _, a, b, _ => by simp [totI_nil]
  | k :: t, V, G, a, b, h => by
    have h1 := h k (by simp)
    have h2 := tot_cross t V G a b (fun z hz => h z (by simp [hz]))
    rw [List.map_cons, List.map_cons, totI_cons, totI_cons, Int.mul_add, Int.add_mul]; omega
theorem tot_cross_lt : ∀ (l : List Int) (V G : Int → Int) (a b : Int), (∀ k ∈ l, a * G k ≤ V k * b) → (∃ k ∈ l, a * G k < V k * b) → a * totI (l.map G) < totI (l.map V) * b
  | [], _, _, _, _, _, h => by obtain ⟨k, hk, _⟩ := h; cases hk
  | k :: t, V, G, a, b, h, hx => by
    rw [List.map_cons, List.map_cons, totI_cons, totI_cons, Int.mul_add, Int.add_mul]
    have h1 := h k (by simp)
    have ht : ∀ z ∈ t, a * G z ≤ V z * b := fun z hz => h z (by simp [hz])
    have h2 := tot_cross t V G a b ht
    obtain ⟨z, hz, hlt⟩ := hx
    rcases List.mem_cons.1 hz with e | e
    · subst e; omega
    · have := tot_cross_lt t V G a b ht ⟨z, e, hlt⟩
      omega
theorem chk_floor {V G : Int → Int} {lots : List Int} (hG : ∀ z, 0 ≤ G z) (hV : ∀ z, 0 ≤ V z) (h : Chk V G 1 lots) {i : Int} (hi : i ∈ lots) (hp : 0 < totI (lots.map V)) : V i * totI (lots.map G) < (G i + 1) * totI (lots.map V) := by
  rw [Int.mul_comm (G i + 1)]
  have hall : ∀ k ∈ lots, V i * G k ≤ V k * (G i + 1) := fun k hk => by
    rcases Int.lt_or_le 0 (G k) with h0 | h0
    · have := h k hk i hi h0
      have e1 : divI 1 (G k - 1) = G k := by unfold divI; omega
      have e2 : divI 1 (G i) = G i + 1 := by unfold divI; omega
      rw [e1, e2] at this
      exact this
    · have e0 : G k = 0 := by have := hG k; omega
      rw [e0, Int.mul_zero]
      exact Int.mul_nonneg (hV k) (by have := hG i; omega)
  rcases Int.lt_or_le 0 (V i) with h0 | h0
  · refine tot_cross_lt lots V G (V i) (G i + 1) hall ⟨i, hi, ?_⟩
    rw [Int.mul_add, Int.mul_one]; omega
  · have e0 : V i = 0 := by have := hV i; omega
    rw [e0, Int.zero_mul]
    exact Int.mul_pos hp (by have := hG i; omega)
/-- **A seat that is moved is noticed, or equal** (promise 89). -/
def move (G : Int → Int) (i k : Int) : Int → Int := fun z => if z = i then G z - 1 else if z = k then G z + 1 else G z
theorem chk_move {V G : Int → Int} {m : Int} {lots : List Int} (hG : ∀ z, 0 ≤ G z) (h : Chk V G m lots) {i k : Int} (hi : i ∈ lots) (hk : k ∈ lots) (hik : i ≠ k) (hp : 0 < G i) (h2 : Chk V (move G i k) m lots) : V i * divI m (G k) = V k * divI m (G i - 1) := by
  have e1 : move G i k i = G i - 1 := by simp [move]
  have e2 : move G i k k = G k + 1 := by simp [move, Ne.symm hik]
  have a := h i hi k hk hp
  have b := h2 k hk i hi (by rw [e2]; have := hG k; omega)
  rw [e1, e2, Int.add_sub_cancel] at b
  omega

end Go.Proofs.Ytbcemgmfkddafaa

namespace Go.Proofs.Ytbcemgmfkddafaa

/-- The greatest of some numbers: of several ones the first one in the lots. -/
def topF (R : Int → Int) : Int → List Int → Int
  | best, [] => best
  | best, k :: t => topF R (if R best < R k then k else best) t
def topL (R : Int → Int) (lots : List Int) : Int := topF R (lots[0]?.getD 0) (lots.drop 1)
def IsTopR (R : Int → Int) (lots : List Int) (w i : Int) : Prop := R i < R w ∨ (R i = R w ∧ lots.idxOf w ≤ lots.idxOf i)
theorem topF_spec {R : Int → Int} : ∀ (t pre : List Int) (best : Int), (pre ++ t).Nodup → best ∈ pre → (∀ i ∈ pre, IsTopR R (pre ++ t) best i) →
    topF R best t ∈ pre ++ t ∧ ∀ i ∈ pre ++ t, IsTopR R (pre ++ t) (topF R best t) i
  | [], pre, best, _, hb, h => by rw [List.append_nil] at *; exact ⟨hb, h⟩
  | k :: t, pre, best, hn, hb, h => by
    have e : pre ++ k :: t = (pre ++ [k]) ++ t := by simp
    have hix : ∀ i ∈ pre, (pre ++ k :: t).idxOf i < (pre ++ k :: t).idxOf k := fun i hi => idx_pre hn hi
    unfold topF
    by_cases hlt : R best < R k
    · rw [if_pos hlt]
      have := topF_spec (R := R) t (pre ++ [k]) k (by rw [← e]; exact hn) (by simp) (fun i hi => by
        rw [← e]
        rcases List.mem_append.1 hi with hi | hi
        · have hs := h i hi
          unfold IsTopR at *
          omega
        · have : i = k := by simpa using hi
          subst this; exact .inr ⟨rfl, Nat.le_refl _⟩)
      rwa [← e] at this
    · rw [if_neg hlt]
      have := topF_spec (R := R) t (pre ++ [k]) best (by rw [← e]; exact hn) (by simp [hb]) (fun i hi => by
        rw [← e]
        rcases List.mem_append.1 hi with hi | hi
        · exact h i hi
        · have : i = k := by simpa using hi
          subst this
          have := hix best hb
          unfold IsTopR
          omega)
      rwa [← e] at this
theorem topL_spec {R : Int → Int} {lots : List Int} (hn : lots.Nodup) (h0 : lots ≠ []) : topL R lots ∈ lots ∧ ∀ i ∈ lots, IsTopR R lots (topL R lots) i := by
  match lots, h0 with
  | b :: t, _ =>
    have := topF_spec (R := R) t [b] b hn (by simp) (fun i hi => by
      have : i = b := by simpa using hi
      subst this; exact .inr ⟨rfl, Nat.le_refl _⟩)
    simpa [topL] using this
/-- There is one alone. -/
theorem topL_one {R : Int → Int} {lots : List Int} (hn : lots.Nodup) (h0 : lots ≠ []) {w : Int} (hw : w ∈ lots) (h : ∀ i ∈ lots, IsTopR R lots w i) : topL R lots = w := by
  obtain ⟨h1, h2⟩ := topL_spec (R := R) hn h0
  have a := h _ h1
  have b := h2 w hw
  unfold IsTopR at a b
  have hi : lots.idxOf (topL R lots) = lots.idxOf w := by omega
  have e1 := List.getElem_idxOf (List.idxOf_lt_length_of_mem h1)
  have e2 := List.getElem_idxOf (List.idxOf_lt_length_of_mem hw)
  rw [← e1, ← e2]
  simp only [hi]

/-- The one who got a seat for a remainder has none of it left. -/
def gone (R : Int → Int) (w : Int) : Int → Int := fun z => if z = w then -1 else R z
/-- Who has got how many further seats behind n rounds; what is left then. -/
def upR (R : Int → Int) (lots : List Int) : Nat → (Int → Int) × (Int → Int)
  | 0 => (fun _ => 0, R)
  | n + 1 => (plus (upR R lots n).1 (topL (upR R lots n).2 lots), gone (upR R lots n).2 (topL (upR R lots n).2 lots))
def Up (R : Int → Int) (lots : List Int) (n : Nat) : Int → Int := (upR R lots n).1
def SeatsLeft (R : Int → Int) (lots : List Int) (n : Nat) : Int → Int := (upR R lots n).2
theorem Up_succ (R : Int → Int) (lots : List Int) (n : Nat) : Up R lots (n + 1) = plus (Up R lots n) (topL (SeatsLeft R lots n) lots) := rfl
theorem Left_succ (R : Int → Int) (lots : List Int) (n : Nat) : SeatsLeft R lots (n + 1) = gone (SeatsLeft R lots n) (topL (SeatsLeft R lots n) lots) := rfl

/-- What holds while remainders get seats. -/
structure RemInv (R : Int → Int) (lots : List Int) (n : Nat) : Prop where
  bit : ∀ z, Up R lots n z = 0 ∨ Up R lots n z = 1
  tot : totI (lots.map (Up R lots n)) = (n : Int)
  left : ∀ z, SeatsLeft R lots n z = if Up R lots n z = 1 then -1 else R z
  pos : ∀ z, Up R lots n z = 1 → 0 < R z
  first : ∀ i ∈ lots, ∀ k ∈ lots, Up R lots n i = 1 → Up R lots n k = 0 → IsTopR R lots i k

theorem totS_zero : ∀ l : List Int, totI (l.map fun _ => (0 : Int)) = 0
  | [] => rfl
  | a :: t => by rw [List.map_cons, totI_cons, totS_zero t]; rfl
theorem tot_scale_le : ∀ (l : List Int) (R U : Int → Int) (T : Int), (∀ z ∈ l, R z ≤ T * U z) → totI (l.map R) ≤ T * totI (l.map U)
  | [], _, _, T, _ => by simp [totI_nil]
  | k :: t, R, U, T, h => by
    have h1 := h k (by simp)
    have h2 := tot_scale_le t R U T (fun z hz => h z (by simp [hz]))
    rw [List.map_cons, List.map_cons, totI_cons, totI_cons, Int.mul_add]; omega
theorem remInv {R : Int → Int} {lots : List Int} {T : Int} {L : Nat} (hn : lots.Nodup) (h0 : lots ≠ []) (hR : ∀ z, 0 ≤ R z) (hT : ∀ z, R z < T) (hL : totI (lots.map R) = (L : Int) * T) : ∀ n, n ≤ L → RemInv R lots n
  | 0, _ => ⟨fun _ => .inl rfl, totS_zero lots, fun _ => rfl, fun z h => by have : (0 : Int) = 1 := h; omega, fun i _ k _ h => by have : (0 : Int) = 1 := h; omega⟩
  | n + 1, hle => by
    have ih := remInv hn h0 hR hT hL n (by omega)
    have hTp : 0 < T := by have := hR 0; have := hT 0; omega
    -- someone is left who has a remainder
    have hex : ∃ k ∈ lots, Up R lots n k = 0 ∧ 0 < R k := by
      refine Classical.byContradiction fun hno => ?_
      have hz : ∀ z ∈ lots, R z ≤ T * Up R lots n z := fun z hz => by
        rcases ih.bit z with h | h
        · have : ¬ 0 < R z := fun hp => hno ⟨z, hz, h, hp⟩
          have := hR z
          rw [h, Int.mul_zero]; omega
        · rw [h, Int.mul_one]; exact Int.le_of_lt (hT z)
      have h1 := tot_scale_le lots R (Up R lots n) T hz
      rw [hL, ih.tot, Int.mul_comm (L : Int)] at h1
      have := Int.le_of_mul_le_mul_left h1 hTp
      omega
    obtain ⟨k, hk, hk0, hkp⟩ := hex
    obtain ⟨w, hw⟩ : ∃ w, topL (SeatsLeft R lots n) lots = w := ⟨_, rfl⟩
    obtain ⟨hwm, hwt⟩ := topL_spec (R := SeatsLeft R lots n) hn h0
    rw [hw] at hwm hwt
    have hLk : SeatsLeft R lots n k = R k := by rw [ih.left, if_neg (by omega)]
    have hLw : 0 < SeatsLeft R lots n w := by
      have := hwt k hk
      unfold IsTopR at this
      omega
    have hw0 : Up R lots n w = 0 := by
      rcases ih.bit w with h | h
      · exact h
      · rw [ih.left, if_pos h] at hLw; omega
    have hLR : SeatsLeft R lots n w = R w := by rw [ih.left, if_neg (by omega)]
    have hU : ∀ z, Up R lots (n + 1) z = if z = w then Up R lots n z + 1 else Up R lots n z := fun z => by rw [Up_succ, hw]; rfl
    refine ⟨fun z => ?_, ?_, fun z => ?_, fun z hz => ?_, fun i hi j hj h1 h2 => ?_⟩
    · rw [hU]
      by_cases e : z = w
      · subst e; rw [if_pos rfl]; omega
      · rw [if_neg e]; exact ih.bit z
    · rw [Up_succ, hw, tot_plus _ hn hwm, ih.tot]; omega
    · rw [Left_succ, hw, hU]
      unfold gone
      by_cases e : z = w
      · subst e; rw [if_pos rfl, if_pos rfl, if_pos (by omega)]
      · rw [if_neg e, if_neg e]; exact ih.left z
    · rw [hU] at hz
      by_cases e : z = w
      · subst e; omega
      · rw [if_neg e] at hz; exact ih.pos z hz
    · rw [hU] at h1 h2
      have hjw : j ≠ w := fun e => by rw [if_pos e] at h2; have := ih.bit j; omega
      rw [if_neg hjw] at h2
      have hLj : SeatsLeft R lots n j = R j := by rw [ih.left, if_neg (by omega)]
      by_cases e : i = w
      · subst e
        have := hwt j hj
        unfold IsTopR at this ⊢
        rw [hLj, hLR] at this
        exact this
      · rw [if_neg e] at h1
        exact ih.first i hi j hj h1 h2

/-- Shares: rounded down, what is over; rounded up. -/
def lowI (v S T : Int) : Int := v * S / T
def overI (v S T : Int) : Int := v * S % T
def highI (v S T : Int) : Int := (v * S + T - 1) / T
theorem low_over (v S T : Int) : T * lowI v S T + overI v S T = v * S := by unfold lowI overI; exact Int.mul_ediv_add_emod _ _
theorem over_range {v S T : Int} (hT : 0 < T) : 0 ≤ overI v S T ∧ overI v S T < T := ⟨Int.emod_nonneg _ (by omega), Int.emod_lt_of_pos _ hT⟩
/-- **A share is between two whole numbers** (promise 94). -/
theorem high_eq {v S T : Int} (hT : 0 < T) : highI v S T = if overI v S T = 0 then lowI v S T else lowI v S T + 1 := by
  have h1 := low_over v S T
  have h2 := over_range (v := v) (S := S) hT
  unfold highI
  rw [← h1]
  split
  · next h =>
    rw [h, Int.add_zero, Int.add_sub_assoc, Int.add_comm, Int.add_mul_ediv_left _ _ (by omega)]
    rw [Int.ediv_eq_zero_of_lt (by omega) (by omega)]; omega
  · next h =>
    have e : T * lowI v S T + overI v S T + T - 1 = (overI v S T - 1) + T * (lowI v S T + 1) := by rw [Int.mul_add]; omega
    rw [e, Int.add_mul_ediv_left _ _ (by omega), Int.ediv_eq_zero_of_lt (by omega) (by omega)]; omega
theorem quota_law {v S T : Int} (hT : 0 < T) : lowI v S T * T ≤ v * S ∧ v * S ≤ highI v S T * T ∧ highI v S T - lowI v S T ≤ 1 ∧ (highI v S T = lowI v S T ↔ v * S % T = 0) := by
  have h1 := low_over v S T
  have h2 := over_range (v := v) (S := S) hT
  have h3 := high_eq (v := v) (S := S) hT
  have e : lowI v S T * T = T * lowI v S T := Int.mul_comm _ _
  have hov : v * S % T = overI v S T := rfl
  rw [hov]
  by_cases h : overI v S T = 0
  · rw [if_pos h] at h3
    rw [h3]
    refine ⟨by omega, by omega, by omega, fun _ => h, fun _ => rfl⟩
  · rw [if_neg h] at h3
    rw [h3]
    have e2 : (lowI v S T + 1) * T = T * lowI v S T + T := by rw [Int.add_mul, Int.one_mul, e]
    exact ⟨by omega, by omega, by omega, fun k => by omega, fun k => absurd k h⟩

/-- What all rounded-down shares leave: so many seats, and so much of remainders. -/
theorem tot_mul : ∀ (l : List Int) (V : Int → Int) (a : Int), totI (l.map fun z => V z * a) = totI (l.map V) * a
  | [], _, a => by simp [totI_nil]
  | k :: t, V, a => by
    rw [List.map_cons, List.map_cons, totI_cons, totI_cons, tot_mul t V a, Int.add_mul]
theorem tot_two : ∀ (l : List Int) (A B C : Int → Int) (T : Int), (∀ z ∈ l, T * A z + B z = C z) → T * totI (l.map A) + totI (l.map B) = totI (l.map C)
  | [], _, _, _, T, _ => by simp [totI_nil]
  | k :: t, A, B, C, T, h => by
    have h1 := h k (by simp)
    have h2 := tot_two t A B C T (fun z hz => h z (by simp [hz]))
    rw [List.map_cons, List.map_cons, List.map_cons, totI_cons, totI_cons, totI_cons, Int.mul_add]; omega
theorem tot_nonneg : ∀ (l : List Int) (A : Int → Int), (∀ z ∈ l, 0 ≤ A z) → 0 ≤ totI (l.map A)
  | [], _, _ => by simp [totI_nil]
  | k :: t, A, h => by
    have h1 := h k (by simp)
    have h2 := tot_nonneg t A (fun z hz => h z (by simp [hz]))
    rw [List.map_cons, totI_cons]; omega
theorem left_seats {V : Int → Int} {lots : List Int} {S T : Int} (hT : totI (lots.map V) = T) (hTp : 0 < T) : ∃ L : Nat, totI (lots.map fun z => lowI (V z) S T) + (L : Int) = S ∧ totI (lots.map fun z => overI (V z) S T) = (L : Int) * T := by
  have h1 := tot_two lots (fun z => lowI (V z) S T) (fun z => overI (V z) S T) (fun z => V z * S) T (fun z _ => low_over (V z) S T)
  rw [tot_mul lots V S, hT] at h1
  have h2 := tot_nonneg lots (fun z => overI (V z) S T) (fun z _ => (over_range hTp).1)
  obtain ⟨A, hA⟩ : ∃ A, totI (lots.map fun z => lowI (V z) S T) = A := ⟨_, rfl⟩
  obtain ⟨B, hB⟩ : ∃ B, totI (lots.map fun z => overI (V z) S T) = B := ⟨_, rfl⟩
  rw [hA, hB] at h1
  rw [hB] at h2
  rw [hA, hB]
  have h3 : B = (S - A) * T := by rw [Int.sub_mul, Int.mul_comm S, Int.mul_comm A]; omega
  have h4 : 0 ≤ S - A := by
    rcases Int.lt_or_le (S - A) 0 with h | h
    · exfalso
      have := Int.mul_neg_of_neg_of_pos h hTp
      omega
    · exact h
  refine ⟨(S - A).toNat, by omega, ?_⟩
  rw [Int.toNat_of_nonneg h4]; exact h3

/-- The seats. -/
def remF (V : Int → Int) (lots : List Int) (S T : Int) (n : Nat) : Int → Int := fun z => lowI (V z) S T + Up (fun z => overI (V z) S T) lots n z
theorem tot_sum : ∀ (l : List Int) (A B : Int → Int), totI (l.map fun z => A z + B z) = totI (l.map A) + totI (l.map B)
  | [], _, _ => rfl
  | k :: t, A, B => by
    rw [List.map_cons, List.map_cons, List.map_cons, totI_cons, totI_cons, totI_cons, tot_sum t A B]; omega
/-- **All seats are given, and fairly; greater remainders come first** (promises 90, 91). -/
theorem rem_law {V : Int → Int} {lots : List Int} {S T : Int} (hn : lots.Nodup) (h0 : lots ≠ []) (hTp : 0 < T) {L : Nat} (hL : totI (lots.map fun z => overI (V z) S T) = (L : Int) * T) (hS : totI (lots.map fun z => lowI (V z) S T) + (L : Int) = S) :
    totI (lots.map (remF V lots S T L)) = S ∧ (∀ z, lowI (V z) S T ≤ remF V lots S T L z ∧ remF V lots S T L z ≤ highI (V z) S T) ∧
    (∀ i ∈ lots, ∀ k ∈ lots, lowI (V i) S T < remF V lots S T L i → remF V lots S T L k = lowI (V k) S T → IsTopR (fun z => overI (V z) S T) lots i k) := by
  have hI := remInv (R := fun z => overI (V z) S T) (T := T) hn h0 (fun z => (over_range hTp).1) (fun z => (over_range hTp).2) hL L (Nat.le_refl _)
  refine ⟨?_, fun z => ?_, fun i hi k hk h1 h2 => ?_⟩
  · unfold remF
    rw [tot_sum, hI.tot]; exact hS
  · have hb := hI.bit z
    have hp := hI.pos z
    have hh := high_eq (v := V z) (S := S) hTp
    have ho := (over_range (v := V z) (S := S) hTp).1
    unfold remF
    rcases hb with h | h
    · rw [h]; split at hh <;> omega
    · have := hp h
      rw [if_neg (by omega)] at hh
      rw [h]; omega
  · unfold remF at h1 h2
    have hb := hI.bit i
    exact hI.first i hi k hk (by omega) (by omega)
/-- **More votes do not have fewer seats** (promise 92). -/
theorem rem_votes {V : Int → Int} {lots : List Int} {S T : Int} (hn : lots.Nodup) (h0 : lots ≠ []) (hTp : 0 < T) (hSn : 0 ≤ S) {L : Nat} (hL : totI (lots.map fun z => overI (V z) S T) = (L : Int) * T) (hS : totI (lots.map fun z => lowI (V z) S T) + (L : Int) = S)
    {i k : Int} (hi : i ∈ lots) (hk : k ∈ lots) (hv : V k < V i) : remF V lots S T L k ≤ remF V lots S T L i := by
  have hI := remInv (R := fun z => overI (V z) S T) (T := T) hn h0 (fun z => (over_range hTp).1) (fun z => (over_range hTp).2) hL L (Nat.le_refl _)
  have h1 := low_over (V i) S T
  have h2 := low_over (V k) S T
  have o1 := over_range (v := V i) (S := S) hTp
  have o2 := over_range (v := V k) (S := S) hTp
  have hm : V k * S ≤ V i * S := Int.mul_le_mul_of_nonneg_right (Int.le_of_lt hv) hSn
  have hlow : lowI (V k) S T ≤ lowI (V i) S T := by
    unfold lowI; exact Int.ediv_le_ediv hTp hm
  have b1 := hI.bit i
  have b2 := hI.bit k
  unfold remF
  rcases Int.lt_or_le (lowI (V k) S T) (lowI (V i) S T) with hlt | hle
  · omega
  · have he : lowI (V k) S T = lowI (V i) S T := by omega
    rw [he] at h2 ⊢
    rcases b2 with h | h
    · rcases b1 with g | g <;> omega
    · rcases b1 with g | g
      · exfalso
        have hf := hI.first k hk i hi h g
        have hpos := hI.pos k h
        unfold IsTopR at hf
        have hSp : 0 < S := by
          rcases Int.lt_or_le 0 S with hp | hp
          · exact hp
          · have e0 : S = 0 := by omega
            exfalso
            have : overI (V k) S T = 0 := by unfold overI; rw [e0, Int.mul_zero]; exact Int.zero_emod _
            omega
        have hm2 : V k * S < V i * S := Int.mul_lt_mul_of_pos_right hv hSp
        simp only at hf
        omega
      · omega
/-- **Whole shares need no remainders** (promise 93). -/
theorem rem_whole {V : Int → Int} {lots : List Int} {S T : Int} (hTp : 0 < T) {L : Nat} (hL : totI (lots.map fun z => overI (V z) S T) = (L : Int) * T) (hz : ∀ z ∈ lots, overI (V z) S T = 0) : L = 0 := by
  have e : (lots.map fun z => overI (V z) S T) = lots.map fun _ => (0 : Int) := List.map_congr_left hz
  rw [e, totS_zero] at hL
  have := Int.mul_eq_zero.1 hL.symm
  omega
/-- **Shares are together all seats** (promise 95). -/
theorem quota_sum {V : Int → Int} {l : List Int} {S T : Int} (hT : totI (l.map V) = T) (hTp : 0 < T) : totI (l.map fun z => lowI (V z) S T) ≤ S ∧ S ≤ totI (l.map fun z => highI (V z) S T) := by
  have hall : ∀ (l : List Int), totI (l.map fun z => lowI (V z) S T) * T ≤ totI (l.map V) * S ∧ totI (l.map V) * S ≤ totI (l.map fun z => highI (V z) S T) * T := fun l => by
    induction l with
    | nil => simp [totI_nil]
    | cons k t ih =>
      have h1 := quota_law (v := V k) (S := S) hTp
      rw [List.map_cons, List.map_cons, List.map_cons, totI_cons, totI_cons, totI_cons, Int.add_mul, Int.add_mul, Int.add_mul]
      omega
  obtain ⟨h1, h2⟩ := hall l
  rw [hT, Int.mul_comm T] at h1 h2
  exact ⟨Int.le_of_mul_le_mul_right h1 hTp, Int.le_of_mul_le_mul_right h2 hTp⟩

end Go.Proofs.Ytbcemgmfkddafaa
