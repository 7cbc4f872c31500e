/-
  Piles, as lists: where ballots are put; two candidates exchanged. Of no memory.
  Sums over all ballots of piles, as lists: of parts, of merged piles, of piles with two candidates exchanged. Of no memory.
  The first candidate of a ballot who has not left, as lists. Of no memory.
  First preferences are counted, as lists: of ballots that come one pile after the other, of parts, and when somebody leaves. Of no memory.
  Lots, as lists: what they are, how a seed draws them, the first of some, the seal. Of no memory.
-/
import Derived.Test.YtojfpnjnbpeniaaGrp1
namespace Go.Proofs.Ytojfpnjnbpeniaa

theorem tAt_cons (p : Pl) (ps : List Pl) (i : Nat) : tAt (p :: ps) (i + 1) = tAt ps i := by simp [tAt]
theorem mAt_cons (p : Pl) (ps : List Pl) (i : Nat) : mAt (p :: ps) (i + 1) = mAt ps i := by simp [mAt]
/-- Ballots are put to the pile with their text. -/
theorem put_same {t : ByteArray} {m : Int} : ∀ {ps : List Pl} {k : Nat}, (∀ j, j < k → tl (tAt ps j) t = true) → k < ps.length → tAt ps k = t → putL ps t m = ps.set k (t, mAt ps k + m)
  | [], k, _, h, _ => by simp at h
  | p :: ps, 0, _, _, he => by
    have e : p.1 = t := by simpa [tAt] using he
    have hn : ¬ tl p.1 t = true := by rw [e, tl_irrefl]; simp
    rw [putL, if_neg hn, if_pos e]
    simp [mAt]
  | p :: ps, k + 1, h, hk, he => by
    have h0 : tl p.1 t = true := by simpa [tAt] using h 0 (by omega)
    rw [tAt_cons] at he
    have ih := put_same (m := m) (ps := ps) (k := k) (fun j hj => by have := h (j + 1) (by omega); rwa [tAt_cons] at this) (by simpa using hk) he
    rw [putL, if_pos h0, ih, mAt_cons]
    rfl
/-- Ballots are put in a new pile. -/
theorem put_new {t : ByteArray} {m : Int} : ∀ {ps : List Pl} {k : Nat}, (∀ j, j < k → tl (tAt ps j) t = true) → k ≤ ps.length → (k < ps.length → tl (tAt ps k) t = false ∧ tAt ps k ≠ t) → putL ps t m = ps.take k ++ (t, m) :: ps.drop k
  | [], k, _, hk, _ => by
    obtain rfl : k = 0 := by simpa using hk
    rfl
  | p :: ps, 0, _, _, h => by
    obtain ⟨h1, h2⟩ := h (by simp)
    have e1 : ¬ tl p.1 t = true := by simpa [tAt] using h1
    have e2 : ¬ p.1 = t := by simpa [tAt] using h2
    rw [putL, if_neg e1, if_neg e2]; rfl
  | p :: ps, k + 1, h, hk, hs => by
    have h0 : tl p.1 t = true := by simpa [tAt] using h 0 (by omega)
    have ih := put_new (m := m) (ps := ps) (k := k) (fun j hj => by have := h (j + 1) (by omega); rwa [tAt_cons] at this) (by simpa using hk)
      (fun hl => by have := hs (by simpa using hl); rwa [tAt_cons] at this)
    rw [putL, if_pos h0, ih]; rfl

/-- One of two candidates in place of the other. -/
def swapC (x y z : Int) : Int := if z = x then y else if z = y then x else z
theorem swapC_twice (x y z : Int) : swapC x y (swapC x y z) = z := by
  unfold swapC
  by_cases h1 : z = x
  · subst h1
    rw [if_pos rfl]
    by_cases h2 : y = z
    · rw [if_pos h2]; exact h2
    · rw [if_neg h2, if_pos rfl]
  · rw [if_neg h1]
    by_cases h2 : z = y
    · subst h2; rw [if_pos rfl, if_pos rfl]
    · rw [if_neg h2, if_neg h1, if_neg h2]
theorem swapC_same (x z : Int) : swapC x x z = z := by
  unfold swapC
  by_cases h : z = x
  · rw [if_pos h]; exact h.symm
  · rw [if_neg h, if_neg h]
def turnB (x y : Int) (zs : List Int) : List Int := zs.map (swapC x y)
theorem turnB_twice (x y : Int) (zs : List Int) : turnB x y (turnB x y zs) = zs := by
  unfold turnB
  rw [List.map_map]
  conv => rhs; rw [← List.map_id zs]
  apply List.map_congr_left
  intro z _
  exact swapC_twice x y z
theorem turnB_same (x : Int) (zs : List Int) : turnB x x zs = zs := by
  unfold turnB
  conv => rhs; rw [← List.map_id zs]
  apply List.map_congr_left
  intro z _
  exact swapC_same x z
theorem turnB_valid {x y : Int} (hx : 0 ≤ x ∧ x ≤ 4) (hy : 0 ≤ y ∧ y ≤ 4) {zs : List Int} (h : validB zs 5 = true) : validB (turnB x y zs) 5 = true := by
  have hm := vB_mem h
  have hd := vB_nodup h
  refine vB_of (by omega) (by omega) ?_ (fun z hz => ?_)
  · unfold turnB List.Nodup
    rw [List.pairwise_map]
    refine List.Pairwise.imp (fun {a b} hab e => hab ?_) hd
    rw [← swapC_twice x y a, e, swapC_twice]
  · obtain ⟨q, hq, rfl⟩ := List.mem_map.1 hz
    have := hm.2.2 q hq
    unfold swapC
    split
    · omega
    · split <;> omega
/-- A text with two candidates exchanged. -/
def turnT (x y : Int) (s : ByteArray) : ByteArray := txtB (turnB x y (parseL s))
theorem turnT_valid {x y : Int} (hx : 0 ≤ x ∧ x ≤ 4) (hy : 0 ≤ y ∧ y ≤ 4) {s : ByteArray} (h : validB (nums s) 5 = true) : validB (nums (turnT x y s)) 5 = true := by
  unfold turnT
  rw [parseL_ok h]
  exact txtB_ok (turnB_valid hx hy h)
theorem turnT_twice {x y : Int} (hx : 0 ≤ x ∧ x ≤ 4) (hy : 0 ≤ y ∧ y ≤ 4) {s : ByteArray} (h : validB (nums s) 5 = true) : turnT x y (turnT x y s) = s := by
  have h1 := turnB_valid hx hy h
  unfold turnT
  rw [parseL_ok h, txtB_parse h1, turnB_twice, txtB_nums' h]

/-- The piles with two candidates exchanged on all ballots. -/
def turnPs (x y : Int) (ps : List Pl) : List Pl := mergeL [] (ps.map fun p => (turnT x y p.1, p.2))
theorem asc_nil : Asc [] := List.Pairwise.nil
theorem turnPs_asc (x y : Int) (ps : List Pl) : Asc (turnPs x y ps) := asc_merge asc_nil _
theorem turnPs_pos {x y : Int} {ps : List Pl} (h : ∀ p ∈ ps, 1 ≤ p.2) : ∀ q ∈ turnPs x y ps, 1 ≤ q.2 := by
  refine pos_merge (fun p hp => by cases hp) (fun p hp => ?_)
  obtain ⟨q, hq, rfl⟩ := List.mem_map.1 hp
  exact h q hq
theorem tot_turned {x y : Int} (hx : 0 ≤ x ∧ x ≤ 4) (hy : 0 ≤ y ∧ y ≤ 4) {ps : List Pl} (hv : ∀ p ∈ ps, validB (nums p.1) 5 = true) {u : ByteArray} (hu : validB (nums u) 5 = true) : tot (turnPs x y ps) u = tot ps (turnT x y u) := by
  unfold turnPs
  rw [tot_merge]
  simp only [tot, Int.zero_add]
  induction ps with
  | nil => rfl
  | cons p ps ih =>
    rw [List.map_cons, tot, tot, ih (fun q hq => hv q (by simp [hq]))]
    have hp := hv p (by simp)
    by_cases e : turnT x y p.1 = u
    · have e2 : p.1 = turnT x y u := by rw [← e, turnT_twice hx hy hp]
      rw [if_pos e, if_pos e2]
    · have e2 : ¬ p.1 = turnT x y u := fun h => e (by rw [h, turnT_twice hx hy hu])
      rw [if_neg e, if_neg e2]
theorem merge_texts {a b : List Pl} : ∀ q ∈ mergeL a b, (∃ p ∈ a, p.1 = q.1) ∨ ∃ p ∈ b, p.1 = q.1 := by
  induction b generalizing a with
  | nil => intro q hq; exact .inl ⟨q, hq, rfl⟩
  | cons r b ih =>
    intro q hq
    rcases ih q hq with ⟨p, hp, e⟩ | ⟨p, hp, e⟩
    · rcases put_texts p hp with e2 | ⟨s, hs, e2⟩
      · exact .inr ⟨r, by simp, by rw [← e, e2]⟩
      · exact .inl ⟨s, hs, by rw [e2, e]⟩
    · exact .inr ⟨p, by simp [hp], e⟩
theorem turnPs_texts {x y : Int} (hx : 0 ≤ x ∧ x ≤ 4) (hy : 0 ≤ y ∧ y ≤ 4) {ps : List Pl} (hv : ∀ p ∈ ps, validB (nums p.1) 5 = true) : ∀ q ∈ turnPs x y ps, validB (nums q.1) 5 = true := by
  intro q hq
  rcases merge_texts q hq with ⟨p, hp, _⟩ | ⟨p, hp, e⟩
  · cases hp
  · obtain ⟨r, hr, rfl⟩ := List.mem_map.1 hp
    rw [← e]
    exact turnT_valid hx hy (hv r hr)
theorem tot_most {ps : List Pl} (h : Asc ps) (h99 : ∀ p ∈ ps, p.2 ≤ 99) (u : ByteArray) : tot ps u ≤ 99 := by
  by_cases hu : ∃ p ∈ ps, p.1 = u
  · obtain ⟨p, hp, rfl⟩ := hu
    rw [tot_mem h p hp]; exact h99 p hp
  · rw [tot_none (fun p hp e => hu ⟨p, hp, e⟩)]; omega
theorem turnPs_short (x y : Int) (ps : List Pl) : (turnPs x y ps).length ≤ ps.length := by
  have := (merge_longer [] (ps.map fun p => (turnT x y p.1, p.2))).2
  simpa [turnPs] using this
/-- **Exchanged piles are valid.** -/
theorem turn_valid {x y : Int} (hx : 0 ≤ x ∧ x ≤ 4) (hy : 0 ≤ y ∧ y ≤ 4) {ps : List Pl} (h : pilesB ps = true) : pilesB (turnPs x y ps) = true := by
  obtain ⟨h1, h2, h3, h4, h5⟩ := pilesB_pos h
  refine (pilesB_iff _).2 ⟨fun q hq => ?_, turnPs_asc x y ps, by have := turnPs_short x y ps; omega⟩
  have hv := turnPs_texts hx hy h4 q hq
  refine (pileB_iff _ _).2 ⟨hv, turnPs_pos h2 q hq, ?_⟩
  rw [← tot_mem (turnPs_asc x y ps) q hq, tot_turned hx hy h4 hv]
  exact tot_most h1 h3 _
/-- **Exchanging twice changes nothing.** -/
theorem turn_twice {x y : Int} (hx : 0 ≤ x ∧ x ≤ 4) (hy : 0 ≤ y ∧ y ≤ 4) {ps : List Pl} (h : pilesB ps = true) : turnPs x y (turnPs x y ps) = ps := by
  obtain ⟨h1, h2, h3, h4, h5⟩ := pilesB_pos h
  have hv := turnPs_texts hx hy h4
  refine piles_ext (turnPs_asc _ _ _) h1 (turnPs_pos (turnPs_pos h2)) h2 (fun u => ?_)
  cases hu : validB (nums u) 5
  · rw [tot_none (fun q hq e => ?_), tot_none (fun p hp e => ?_)]
    · have := h4 p hp; rw [e, hu] at this; cases this
    · have := turnPs_texts hx hy hv q hq; rw [e, hu] at this; cases this
  · rw [tot_turned hx hy hv hu, tot_turned hx hy h4 (turnT_valid hx hy hu), turnT_twice hx hy hu]
theorem turn_sum (x y : Int) (ps : List Pl) : sumL (turnPs x y ps) = sumL ps := by
  unfold turnPs
  rw [sumL_merge]
  have : sumL (ps.map fun p => (turnT x y p.1, p.2)) = sumL ps := by
    induction ps with
    | nil => rfl
    | cons p ps ih => rw [List.map_cons, sumL_cons, sumL_cons, ih]
  rw [this]; simp [sumL]
theorem turn_length {x y : Int} (hx : 0 ≤ x ∧ x ≤ 4) (hy : 0 ≤ y ∧ y ≤ 4) {ps : List Pl} (h : pilesB ps = true) : (turnPs x y ps).length = ps.length := by
  have h1 := turnPs_short x y ps
  have h2 := turnPs_short x y (turnPs x y ps)
  rw [turn_twice hx hy h] at h2
  omega

/-- What PilesAdd returns. -/
def addB (ps : List Pl) (t : ByteArray) (m : Int) : Bool := pilesB ps && (pileB t m && pilesB (putL ps t m))
def addL (ps : List Pl) (t : ByteArray) (m : Int) : List Pl := if addB ps t m = true then putL ps t m else []
/-- What PilesMerge returns. -/
def joinB (a b : List Pl) : Bool := pilesB a && (pilesB b && pilesB (mergeL a b))
def joinL (a b : List Pl) : List Pl := if joinB a b = true then mergeL a b else []
/-- What PilesTotal returns. -/
def totalL (ps : List Pl) : Int := if pilesB ps = true then sumL ps else -1
/-- What PilesTurn returns. -/
def canB (ps : List Pl) (x y : Int) : Bool := pilesB ps && (inB x 0 4 && inB y 0 4)
def canL (ps : List Pl) (x y : Int) : List Pl := if canB ps x y = true then turnPs x y ps else []
theorem addB_iff (ps : List Pl) (t : ByteArray) (m : Int) : addB ps t m = true ↔ pilesB ps = true ∧ pileB t m = true ∧ pilesB (putL ps t m) = true := by simp [addB]
theorem joinB_iff (a b : List Pl) : joinB a b = true ↔ pilesB a = true ∧ pilesB b = true ∧ pilesB (mergeL a b) = true := by simp [joinB]
theorem canB_iff (ps : List Pl) (x y : Int) : canB ps x y = true ↔ pilesB ps = true ∧ (0 ≤ x ∧ x ≤ 4) ∧ (0 ≤ y ∧ y ≤ 4) := by simp [canB, inB]
/-- P15. -/
theorem law_add {ps : List Pl} {t : ByteArray} {m : Int} (h : addB ps t m = true) : pilesB (addL ps t m) = true ∧ totalL (addL ps t m) = totalL ps + m := by
  obtain ⟨h1, h2, h3⟩ := (addB_iff _ _ _).1 h
  rw [addL, if_pos h]
  exact ⟨h3, by rw [totalL, if_pos h3, totalL, if_pos h1, sumL_put]⟩
/-- P16. -/
theorem law_two {ps : List Pl} {t : ByteArray} {k n : Int} (h : addB ps t (k + n) = true) (hk : 1 ≤ k) (hn : 1 ≤ n) : addB ps t k = true ∧ addB (addL ps t k) t n = true ∧ addL (addL ps t k) t n = addL ps t (k + n) := by
  obtain ⟨h1, h2, h3⟩ := (addB_iff _ _ _).1 h
  obtain ⟨v1, v2, v3⟩ := (pileB_iff _ _).1 h2
  obtain ⟨a1, a2, _⟩ := pilesB_pos h1
  have e := put_two h1 t k n hk hn
  have h4 : pilesB (putL ps t k) = true := valid_before (b := [(t, n)]) (by show pilesB (putL (putL ps t k) t n) = true; rw [e]; exact h3) (asc_put a1 _ _) (pos_put a2 hk) (fun p hp => by rw [List.mem_singleton.1 hp]; exact hn)
  have b1 : addB ps t k = true := (addB_iff _ _ _).2 ⟨h1, (pileB_iff _ _).2 ⟨v1, hk, by omega⟩, h4⟩
  have e1 : addL ps t k = putL ps t k := by rw [addL, if_pos b1]
  have b2 : addB (putL ps t k) t n = true := (addB_iff _ _ _).2 ⟨h4, (pileB_iff _ _).2 ⟨v1, hn, by omega⟩, by rw [e]; exact h3⟩
  exact ⟨b1, by rw [e1]; exact b2, by rw [e1, addL, if_pos b2, e, addL, if_pos h]⟩
/-- P17. -/
theorem law_join {a b : List Pl} (h : joinB a b = true) : joinB b a = true ∧ joinL b a = joinL a b ∧ totalL (joinL a b) = totalL a + totalL b ∧ pilesB (joinL a b) = true := by
  obtain ⟨h1, h2, h3⟩ := (joinB_iff _ _).1 h
  have e := merge_comm h1 h2
  have hb : joinB b a = true := (joinB_iff _ _).2 ⟨h2, h1, by rw [← e]; exact h3⟩
  have e1 : joinL a b = mergeL a b := by rw [joinL, if_pos h]
  exact ⟨hb, by rw [e1, joinL, if_pos hb, e], by rw [e1, totalL, if_pos h3, totalL, if_pos h1, totalL, if_pos h2, sumL_merge], by rw [e1]; exact h3⟩
/-- P18. -/
theorem law_parts {a b : List Pl} (h : joinB a b = true) (k : Nat) : joinB a (b.take k) = true ∧ joinB (joinL a (b.take k)) (b.drop k) = true ∧ joinL (joinL a (b.take k)) (b.drop k) = joinL a b := by
  obtain ⟨h1, h2, h3⟩ := (joinB_iff _ _).1 h
  obtain ⟨a1, a2, _⟩ := pilesB_pos h1
  obtain ⟨_, p2, _⟩ := pilesB_pos h2
  have e : mergeL (mergeL a (b.take k)) (b.drop k) = mergeL a b := by rw [← mergeL_app, List.take_append_drop]
  have ht := piles_sub h2 (List.take_sublist k b)
  have hd := piles_sub h2 (List.drop_sublist k b)
  have h4 : pilesB (mergeL a (b.take k)) = true := valid_before (b := b.drop k) (by rw [e]; exact h3) (asc_merge a1 _) (pos_merge a2 (fun p hp => p2 p (List.mem_of_mem_take hp))) (fun p hp => p2 p (List.mem_of_mem_drop hp))
  have b1 : joinB a (b.take k) = true := (joinB_iff _ _).2 ⟨h1, ht, h4⟩
  have e1 : joinL a (b.take k) = mergeL a (b.take k) := by rw [joinL, if_pos b1]
  have b2 : joinB (mergeL a (b.take k)) (b.drop k) = true := (joinB_iff _ _).2 ⟨h4, hd, by rw [e]; exact h3⟩
  exact ⟨b1, by rw [e1]; exact b2, by rw [e1, joinL, if_pos b2, e, joinL, if_pos h]⟩
/-- P19: one pile more. -/
theorem law_each {a b : List Pl} (h : joinB a b = true) (k : Nat) (hk : k < b.length) : addB (mergeL a (b.take k)) (tAt b k) (mAt b k) = true ∧ addL (mergeL a (b.take k)) (tAt b k) (mAt b k) = mergeL a (b.take (k + 1)) := by
  obtain ⟨h1, h2, h3⟩ := (joinB_iff _ _).1 h
  obtain ⟨a1, a2, _⟩ := pilesB_pos h1
  obtain ⟨_, p2, _⟩ := pilesB_pos h2
  have valid : ∀ j, pilesB (mergeL a (b.take j)) = true := fun j => by
    have e : mergeL (mergeL a (b.take j)) (b.drop j) = mergeL a b := by rw [← mergeL_app, List.take_append_drop]
    exact valid_before (b := b.drop j) (by rw [e]; exact h3) (asc_merge a1 _) (pos_merge a2 (fun p hp => p2 p (List.mem_of_mem_take hp))) (fun p hp => p2 p (List.mem_of_mem_drop hp))
  have e1 : mergeL a (b.take (k + 1)) = putL (mergeL a (b.take k)) (tAt b k) (mAt b k) := by
    rw [List.take_succ_eq_append_getElem hk, mergeL_snoc]
    simp [tAt, mAt, hk]
  have hp : pileB (tAt b k) (mAt b k) = true := by
    have := ((pilesB_iff b).1 h2).1 _ (List.getElem_mem hk)
    simpa [tAt, mAt, hk] using this
  have b1 : addB (mergeL a (b.take k)) (tAt b k) (mAt b k) = true := (addB_iff _ _ _).2 ⟨valid k, hp, by rw [← e1]; exact valid (k + 1)⟩
  exact ⟨b1, by rw [addL, if_pos b1, e1]⟩
/-- P20. -/
theorem law_turn {ps : List Pl} {x y : Int} (h : canB ps x y = true) : canB (canL ps x y) x y = true ∧ canL (canL ps x y) x y = ps ∧ totalL (canL ps x y) = totalL ps ∧ (canL ps x y).length = ps.length := by
  obtain ⟨h1, hx, hy⟩ := (canB_iff _ _ _).1 h
  have hv := turn_valid hx hy h1
  have e1 : canL ps x y = turnPs x y ps := by rw [canL, if_pos h]
  have b2 : canB (turnPs x y ps) x y = true := (canB_iff _ _ _).2 ⟨hv, hx, hy⟩
  rw [e1]
  exact ⟨b2, by rw [canL, if_pos b2, turn_twice hx hy h1], by rw [totalL, if_pos hv, totalL, if_pos h1, turn_sum], turn_length hx hy h1⟩

end Go.Proofs.Ytojfpnjnbpeniaa

namespace Go.Proofs.Ytojfpnjnbpeniaa

/-- Each ballot counts for what f says of its text. -/
def wsum (f : ByteArray → Int) (ps : List Pl) : Int := ps.foldr (fun p s => f p.1 * p.2 + s) 0
theorem wsum_nil (f : ByteArray → Int) : wsum f [] = 0 := rfl
theorem wsum_cons (f : ByteArray → Int) (p : Pl) (ps : List Pl) : wsum f (p :: ps) = f p.1 * p.2 + wsum f ps := rfl
theorem wsum_app (f : ByteArray → Int) (a b : List Pl) : wsum f (a ++ b) = wsum f a + wsum f b := by
  induction a with
  | nil => rw [List.nil_append, wsum_nil, Int.zero_add]
  | cons p a ih => rw [List.cons_append, wsum_cons, wsum_cons, ih, Int.add_assoc]
theorem wsum_snoc (f : ByteArray → Int) (a : List Pl) (p : Pl) : wsum f (a ++ [p]) = wsum f a + f p.1 * p.2 := by
  rw [wsum_app, wsum_cons, wsum_nil, Int.add_zero]
theorem wsum_put (f : ByteArray → Int) (ps : List Pl) (t : ByteArray) (m : Int) : wsum f (putL ps t m) = wsum f ps + f t * m := by
  induction ps with
  | nil => rw [putL, wsum_cons, wsum_nil]; show f t * m + 0 = 0 + f t * m; omega
  | cons p ps ih =>
    unfold putL
    split
    · rw [wsum_cons, ih, wsum_cons]; omega
    · split
      · rename_i h1 h2
        rw [wsum_cons, wsum_cons, h2]
        show f t * (p.2 + m) + wsum f ps = f t * p.2 + wsum f ps + f t * m
        rw [Int.mul_add]; omega
      · rw [wsum_cons, wsum_cons]
        show f t * m + (f p.1 * p.2 + wsum f ps) = f p.1 * p.2 + wsum f ps + f t * m
        omega
theorem wsum_merge (f : ByteArray → Int) (a b : List Pl) : wsum f (mergeL a b) = wsum f a + wsum f b := by
  induction b generalizing a with
  | nil => rw [mergeL, wsum_nil, Int.add_zero]
  | cons p b ih => rw [mergeL, ih, wsum_put, wsum_cons]; omega
theorem wsum_map (f : ByteArray → Int) (g : ByteArray → ByteArray) (ps : List Pl) : wsum f (ps.map fun p => (g p.1, p.2)) = wsum (fun t => f (g t)) ps := by
  induction ps with
  | nil => rfl
  | cons p ps ih => rw [List.map_cons, wsum_cons, wsum_cons, ih]
theorem wsum_turn (f : ByteArray → Int) (x y : Int) (ps : List Pl) : wsum f (turnPs x y ps) = wsum (fun t => f (turnT x y t)) ps := by
  unfold turnPs
  rw [wsum_merge, wsum_nil, wsum_map, Int.zero_add]
theorem wsum_congr {f g : ByteArray → Int} {ps : List Pl} (h : ∀ p ∈ ps, f p.1 = g p.1) : wsum f ps = wsum g ps := by
  induction ps with
  | nil => rfl
  | cons p ps ih => rw [wsum_cons, wsum_cons, h p (by simp), ih (fun q hq => h q (by simp [hq]))]
theorem wsum_le {f g : ByteArray → Int} {ps : List Pl} (h : ∀ p ∈ ps, f p.1 ≤ g p.1) (hp : ∀ p ∈ ps, 1 ≤ p.2) : wsum f ps ≤ wsum g ps := by
  induction ps with
  | nil => exact Int.le_refl _
  | cons p ps ih =>
    rw [wsum_cons, wsum_cons]
    have h1 := Int.mul_le_mul_of_nonneg_right (h p (by simp)) (show 0 ≤ p.2 by have := hp p (by simp); omega)
    have h2 := ih (fun q hq => h q (by simp [hq])) (fun q hq => hp q (by simp [hq]))
    omega
theorem wsum_zero (ps : List Pl) : wsum (fun _ => 0) ps = 0 := by
  induction ps with
  | nil => rfl
  | cons p ps ih => rw [wsum_cons, ih, Int.zero_mul, Int.zero_add]
theorem wsum_one (ps : List Pl) : wsum (fun _ => 1) ps = sumL ps := by
  induction ps with
  | nil => rfl
  | cons p ps ih => rw [wsum_cons, ih, Int.one_mul, sumL_cons]
theorem wsum_nonneg {f : ByteArray → Int} {ps : List Pl} (h : ∀ p ∈ ps, 0 ≤ f p.1) (hp : ∀ p ∈ ps, 1 ≤ p.2) : 0 ≤ wsum f ps := by
  have := wsum_le (f := fun _ => 0) h hp
  rwa [wsum_zero] at this
theorem wsum_most {f : ByteArray → Int} {ps : List Pl} (h : ∀ p ∈ ps, f p.1 ≤ 1) (hp : ∀ p ∈ ps, 1 ≤ p.2) : wsum f ps ≤ sumL ps := by
  have := wsum_le (g := fun _ => 1) h hp
  rwa [wsum_one] at this
theorem wsum_add (f g : ByteArray → Int) (ps : List Pl) : wsum (fun t => f t + g t) ps = wsum f ps + wsum g ps := by
  induction ps with
  | nil => rfl
  | cons p ps ih => rw [wsum_cons, wsum_cons, wsum_cons, ih, Int.add_mul]; omega

/-- The sum of some numbers. -/
def totI (l : List Int) : Int := l.foldr (· + ·) 0
theorem totI_nil : totI [] = 0 := rfl
theorem totI_cons (z : Int) (l : List Int) : totI (z :: l) = z + totI l := rfl
theorem totI_app (a b : List Int) : totI (a ++ b) = totI a + totI b := by
  induction a with
  | nil => rw [List.nil_append, totI_nil, Int.zero_add]
  | cons z a ih => rw [List.cons_append, totI_cons, totI_cons, ih, Int.add_assoc]
theorem totI_snoc (a : List Int) (z : Int) : totI (a ++ [z]) = totI a + z := by rw [totI_app, totI_cons, totI_nil, Int.add_zero]
/-- Sums over candidates and over ballots are exchanged. -/
theorem totI_wsum (F : Nat → ByteArray → Int) (n : Nat) (ps : List Pl) : totI ((List.range n).map fun k => wsum (F k) ps) = wsum (fun t => totI ((List.range n).map fun k => F k t)) ps := by
  induction n with
  | zero => simp only [List.range_zero, List.map_nil, totI_nil]; exact (wsum_zero ps).symm
  | succ n ih =>
    simp only [List.range_succ, List.map_append, List.map_cons, List.map_nil, totI_snoc]
    rw [ih, ← wsum_add]
theorem totI_le {a b : List Int} (hl : a.length = b.length) (h : ∀ i, i < a.length → a[i]?.getD 0 ≤ b[i]?.getD 0) : totI a ≤ totI b := by
  induction a generalizing b with
  | nil => cases b with
    | nil => exact Int.le_refl _
    | cons _ _ => simp at hl
  | cons x a ih => cases b with
    | nil => simp at hl
    | cons y b =>
      have h0 := h 0 (by simp)
      have ih := ih (b := b) (by simpa using hl) (fun i hi => by have := h (i + 1) (by simp [hi]); simpa using this)
      simp only [totI_cons]
      simp at h0
      omega
/-- One number of n is 1, the others are 0: or all are 0. -/
theorem totI_one (n : Nat) (z : Int) : totI ((List.range n).map fun (k : Nat) => if z = (k : Int) then (1 : Int) else 0) = if 0 ≤ z ∧ z < (n : Int) then 1 else 0 := by
  induction n with
  | zero =>
    rw [if_neg (by omega)]; rfl
  | succ n ih =>
    simp only [List.range_succ, List.map_append, List.map_cons, List.map_nil, totI_snoc]
    rw [ih]
    by_cases h1 : z = (n : Int)
    · rw [if_neg (by omega), if_pos h1, if_pos (by omega)]; rfl
    · rw [if_neg h1]
      by_cases h2 : 0 ≤ z ∧ z < (n : Int)
      · rw [if_pos h2, if_pos (by omega)]; rfl
      · rw [if_neg h2, if_neg (by omega)]; rfl

end Go.Proofs.Ytojfpnjnbpeniaa

namespace Go.Proofs.Ytojfpnjnbpeniaa

/-- The first of zs who has not left, or -1. -/
def firstL : List Int → List Bool → Int
  | [], _ => -1
  | z :: t, L => if L[z.toNat]?.getD false = true then firstL t L else z
theorem firstL_app {pre : List Int} {L : List Bool} (h : ∀ z ∈ pre, L[z.toNat]?.getD false = true) (rest : List Int) : firstL (pre ++ rest) L = firstL rest L := by
  induction pre with
  | nil => rfl
  | cons z t ih =>
    rw [List.cons_append, firstL, if_pos (h z (by simp))]
    exact ih (fun u hu => h u (by simp [hu]))
def firstB (zs : List Int) (L : List Bool) : Int := if validB zs (L.length : Int) = true then firstL zs L else -1

theorem firstL_mem (zs : List Int) (L : List Bool) : firstL zs L = -1 ∨ firstL zs L ∈ zs := by
  induction zs with
  | nil => exact .inl rfl
  | cons z t ih =>
    unfold firstL
    split
    · rcases ih with h | h
      · exact .inl h
      · exact .inr (by simp [h])
    · exact .inr (by simp)
theorem firstL_here {zs : List Int} {L : List Bool} (hz : ∀ z ∈ zs, 0 ≤ z) (h : 0 ≤ firstL zs L) : L[(firstL zs L).toNat]?.getD false = false := by
  induction zs with
  | nil => simp [firstL] at h
  | cons z t ih =>
    unfold firstL at h ⊢
    split
    · rename_i h1
      rw [if_pos h1] at h
      exact ih (fun u hu => hz u (by simp [hu])) h
    · rename_i h1
      simpa using h1
theorem set_at (L : List Bool) (k i : Nat) (h : k < L.length) : (L.set k true)[i]?.getD false = if i = k then true else L[i]?.getD false := by
  rw [List.getElem?_set]
  by_cases e : k = i
  · subst e; simp [h]
  · rw [if_neg e, if_neg (fun h => e h.symm)]
/-- Who stays is still the first one when another one leaves. -/
theorem firstL_set {zs : List Int} {L : List Bool} {k : Nat} (hk : k < L.length) (hz : ∀ z ∈ zs, 0 ≤ z) (h : firstL zs L ≠ (k : Int)) : firstL zs (L.set k true) = firstL zs L := by
  induction zs with
  | nil => rfl
  | cons z t ih =>
    have hz0 := hz z (by simp)
    unfold firstL at h ⊢
    by_cases h1 : L[z.toNat]?.getD false = true
    · rw [if_pos h1] at h ⊢
      rw [if_pos (by rw [set_at _ _ _ hk]; split <;> simp [h1])]
      exact ih (fun u hu => hz u (by simp [hu])) h
    · rw [if_neg h1] at h ⊢
      rw [if_neg (by rw [set_at _ _ _ hk, if_neg (by omega)]; exact h1)]
theorem firstL_set_some {zs : List Int} {L : List Bool} {k : Nat} (hk : k < L.length) (hz : ∀ z ∈ zs, 0 ≤ z) (h : 0 ≤ firstL zs (L.set k true)) : 0 ≤ firstL zs L := by
  by_cases e : firstL zs L = (k : Int)
  · omega
  · rwa [firstL_set hk hz e] at h
theorem firstL_none (zs : List Int) (n : Nat) : firstL zs (List.replicate n false) = zs.head?.getD (-1) := by
  cases zs with
  | nil => rfl
  | cons z t =>
    unfold firstL
    rw [if_neg (by rw [List.getElem?_replicate]; split <;> simp)]
    rfl

end Go.Proofs.Ytojfpnjnbpeniaa

namespace Go.Proofs.Ytojfpnjnbpeniaa

/-- Whether a text's first candidate is k. -/
def oneF (L : List Bool) (k : Nat) (t : ByteArray) : Int := if firstL (parseL t) L = (k : Int) then 1 else 0
/-- The counts of first preferences. -/
def countsL (ps : List Pl) (L : List Bool) : List Int := (List.range L.length).map fun k => wsum (oneF L k) ps
theorem countsL_length (ps : List Pl) (L : List Bool) : (countsL ps L).length = L.length := by simp [countsL]
theorem countsL_at (ps : List Pl) (L : List Bool) {k : Nat} (h : k < L.length) : (countsL ps L)[k]?.getD 0 = wsum (oneF L k) ps := by
  simp [countsL, h]
theorem countsL_nil (L : List Bool) : countsL [] L = List.replicate L.length 0 := by
  refine List.ext_getElem (by simp [countsL]) (fun i h1 h2 => ?_)
  simp [countsL, wsum_nil]
theorem countsL_hit {pre : List Pl} {p : Pl} {L : List Bool} {k : Nat} (hk : k < L.length) (h : firstL (parseL p.1) L = (k : Int)) : countsL (pre ++ [p]) L = (countsL pre L).set k ((countsL pre L)[k]?.getD 0 + p.2) := by
  rw [countsL_at _ _ hk]
  refine List.ext_getElem (by simp [countsL]) (fun i h1 h2 => ?_)
  have hi : i < L.length := by rwa [countsL_length] at h1
  rw [List.getElem_set]
  simp only [countsL, List.getElem_map, List.getElem_range, wsum_snoc]
  by_cases e : k = i
  · subst e
    rw [if_pos rfl]
    simp only [oneF, h, if_true, Int.one_mul]
  · rw [if_neg e]
    have : oneF L i p.1 = 0 := by unfold oneF; rw [h, if_neg (by omega)]
    rw [this, Int.zero_mul, Int.add_zero]
theorem countsL_miss {pre : List Pl} {p : Pl} {L : List Bool} (h : firstL (parseL p.1) L < 0) : countsL (pre ++ [p]) L = countsL pre L := by
  refine List.ext_getElem (by simp [countsL]) (fun i h1 h2 => ?_)
  simp only [countsL, List.getElem_map, List.getElem_range, wsum_snoc]
  have : oneF L i p.1 = 0 := by unfold oneF; rw [if_neg (by omega)]
  rw [this, Int.zero_mul, Int.add_zero]

theorem oneF_low (L : List Bool) (k : Nat) (t : ByteArray) : 0 ≤ oneF L k t := by unfold oneF; split <;> omega
theorem oneF_high (L : List Bool) (k : Nat) (t : ByteArray) : oneF L k t ≤ 1 := by unfold oneF; split <;> omega
theorem parse_pos (t : ByteArray) : ∀ z ∈ parseL t, 0 ≤ z := by
  intro z hz
  cases hv : validB (nums t) 5
  · rw [parseL_no hv] at hz; cases hz
  · rw [parseL_ok hv] at hz; exact ((vB_mem hv).2.2 z hz).1
/-- **Each ballot counts once.** -/
theorem counts_left {ps : List Pl} {L : List Bool} {k : Nat} (hk : k < L.length) (h : L[k]?.getD false = true) : (countsL ps L)[k]?.getD 0 = 0 := by
  rw [countsL_at _ _ hk, ← wsum_zero ps]
  refine wsum_congr (fun p _ => ?_)
  unfold oneF
  refine if_neg (fun e => ?_)
  have := firstL_here (parse_pos p.1) (L := L) (by omega)
  rw [e, Int.toNat_natCast, h] at this
  cases this
theorem counts_low {ps : List Pl} {L : List Bool} {k : Nat} (hk : k < L.length) (hp : ∀ p ∈ ps, 1 ≤ p.2) : 0 ≤ (countsL ps L)[k]?.getD 0 := by
  rw [countsL_at _ _ hk]
  exact wsum_nonneg (fun p _ => oneF_low _ _ _) hp
/-- The sum of all counts: each ballot that names somebody who is there. -/
def someF (L : List Bool) (t : ByteArray) : Int := if 0 ≤ firstL (parseL t) L ∧ firstL (parseL t) L < (L.length : Int) then 1 else 0
theorem counts_sum (ps : List Pl) (L : List Bool) : totI (countsL ps L) = wsum (someF L) ps := by
  unfold countsL
  rw [totI_wsum]
  refine wsum_congr (fun p _ => ?_)
  exact totI_one L.length _
theorem counts_most {ps : List Pl} {L : List Bool} (hp : ∀ p ∈ ps, 1 ≤ p.2) : totI (countsL ps L) ≤ sumL ps := by
  rw [counts_sum]
  exact wsum_most (fun p _ => by unfold someF; split <;> omega) hp
theorem count_most {ps : List Pl} {L : List Bool} {k : Nat} (hk : k < L.length) (hp : ∀ p ∈ ps, 1 ≤ p.2) : (countsL ps L)[k]?.getD 0 ≤ sumL ps := by
  rw [countsL_at _ _ hk]
  exact wsum_most (fun p _ => oneF_high _ _ _) hp
/-- **Who stays loses nothing.** -/
theorem counts_more {ps : List Pl} {L : List Bool} {k i : Nat} (hk : k < L.length) (hi : i < L.length) (hki : i ≠ k) (hp : ∀ p ∈ ps, 1 ≤ p.2) : (countsL ps L)[i]?.getD 0 ≤ (countsL ps (L.set k true))[i]?.getD 0 := by
  rw [countsL_at _ _ hi, countsL_at _ _ (by rw [List.length_set]; exact hi)]
  refine wsum_le (fun p _ => ?_) hp
  unfold oneF
  by_cases e : firstL (parseL p.1) L = (i : Int)
  · have e2 := firstL_set hk (parse_pos p.1) (show firstL (parseL p.1) L ≠ (k : Int) by omega)
    rw [if_pos e, if_pos (by rw [e2, e])]
    exact Int.le_refl _
  · rw [if_neg e]; split <;> omega
theorem counts_more_sum {ps : List Pl} {L : List Bool} {k : Nat} (hk : k < L.length) (hp : ∀ p ∈ ps, 1 ≤ p.2) : totI (countsL ps (L.set k true)) ≤ totI (countsL ps L) := by
  rw [counts_sum, counts_sum]
  refine wsum_le (fun p _ => ?_) hp
  unfold someF
  by_cases e : firstL (parseL p.1) L = (k : Int)
  · rw [if_pos (show 0 ≤ firstL (parseL p.1) L ∧ firstL (parseL p.1) L < (L.length : Int) by omega)]
    split <;> omega
  · rw [firstL_set hk (parse_pos p.1) e, List.length_set]
    exact Int.le_refl _
/-- **Counts of parts add up.** -/
theorem counts_parts (a b : List Pl) {L : List Bool} {i : Nat} (hi : i < L.length) : (countsL (a ++ b) L)[i]?.getD 0 = (countsL a L)[i]?.getD 0 + (countsL b L)[i]?.getD 0 := by
  rw [countsL_at _ _ hi, countsL_at _ _ hi, countsL_at _ _ hi, wsum_app]
theorem counts_merge (a b : List Pl) {L : List Bool} {i : Nat} (hi : i < L.length) : (countsL (mergeL a b) L)[i]?.getD 0 = (countsL a L)[i]?.getD 0 + (countsL b L)[i]?.getD 0 := by
  rw [countsL_at _ _ hi, countsL_at _ _ hi, countsL_at _ _ hi, wsum_merge]
theorem counts_put (a : List Pl) (t : ByteArray) (m : Int) {L : List Bool} {i : Nat} (hi : i < L.length) : (countsL (putL a t m) L)[i]?.getD 0 = (countsL a L)[i]?.getD 0 + oneF L i t * m := by
  rw [countsL_at _ _ hi, countsL_at _ _ hi, wsum_put]

/-- Piles fit n candidates. -/
def fitsB (ps : List Pl) (n : Int) : Bool := pilesB ps && (inB n 1 5 && ps.all fun p => validB (nums p.1) n)

end Go.Proofs.Ytojfpnjnbpeniaa

namespace Go.Proofs.Ytojfpnjnbpeniaa

/-- Lots are valid. -/
def lotsB (zs : List Int) : Bool := validB zs (zs.length : Int)
theorem lotsB_len {zs : List Int} (h : lotsB zs = true) : 1 ≤ zs.length ∧ zs.length ≤ 5 := by have := vB_mem h; omega
theorem lotsB_perm {zs ys : List Int} (h : lotsB zs = true) (hp : ys.Perm zs) : lotsB ys = true := by
  have hm := vB_mem h
  have hd := vB_nodup h
  unfold lotsB
  rw [hp.length_eq]
  exact vB_of hm.1 hm.2.1 (hp.nodup_iff.2 hd) (fun z hz => hm.2.2 z (hp.mem_iff.1 hz))

/-- The lots that a seed draws out of a list; 'f' bounds the draws. -/
def lotL : Nat → List Int → Nat → List Int
  | 0, _, _ => []
  | f + 1, rest, seed => if rest.length = 0 then [] else rest[seed % rest.length]?.getD 0 :: lotL f (rest.eraseIdx (seed % rest.length)) (seed / rest.length)
theorem lotL_nil (f seed : Nat) : lotL f [] seed = [] := by cases f <;> rfl
theorem lotL_step (f : Nat) (rest : List Int) (seed : Nat) (h : rest.length ≠ 0) : lotL (f + 1) rest seed = rest[seed % rest.length]?.getD 0 :: lotL f (rest.eraseIdx (seed % rest.length)) (seed / rest.length) := by rw [lotL, if_neg h]
theorem lotL_length : ∀ (f : Nat) (rest : List Int) (seed : Nat), rest.length ≤ f → (lotL f rest seed).length = rest.length
  | 0, rest, seed, h => by simp [lotL]; omega
  | f + 1, rest, seed, h => by
    by_cases h0 : rest.length = 0
    · rw [List.length_eq_zero_iff.1 h0, lotL_nil]
    · have hm := Nat.mod_lt seed (show 0 < rest.length by omega)
      have he : (rest.eraseIdx (seed % rest.length)).length = rest.length - 1 := by rw [List.length_eraseIdx, if_pos hm]
      rw [lotL_step f rest seed h0, List.length_cons, lotL_length f _ _ (by omega), he]; omega
theorem erase_perm : ∀ (l : List Int) (i : Nat) (h : i < l.length), (l[i] :: l.eraseIdx i).Perm l
  | [], i, h => by simp at h
  | a :: t, 0, _ => by simp
  | a :: t, i + 1, h => by
    have ih := erase_perm t i (by simpa using h)
    simp only [List.getElem_cons_succ, List.eraseIdx_cons_succ]
    exact (List.Perm.swap a _ _).trans (List.Perm.cons a ih)
theorem lotL_perm : ∀ (f : Nat) (rest : List Int) (seed : Nat), rest.length ≤ f → (lotL f rest seed).Perm rest
  | 0, rest, seed, h => by rw [List.length_eq_zero_iff.1 (show rest.length = 0 by omega)]; exact List.Perm.refl _
  | f + 1, rest, seed, h => by
    by_cases h0 : rest.length = 0
    · rw [List.length_eq_zero_iff.1 h0, lotL_nil]
    · have hm := Nat.mod_lt seed (show 0 < rest.length by omega)
      have he : (rest.eraseIdx (seed % rest.length)).length = rest.length - 1 := by rw [List.length_eraseIdx, if_pos hm]
      rw [lotL_step f rest seed h0]
      have h1 := lotL_perm f (rest.eraseIdx (seed % rest.length)) (seed / rest.length) (by omega)
      have e : rest[seed % rest.length]?.getD 0 = rest[seed % rest.length] := by simp [hm]
      rw [e]
      exact (List.Perm.cons _ h1).trans (erase_perm _ _ hm)

/-- The factorial. -/
def factN : Nat → Nat
  | 0 => 1
  | n + 1 => (n + 1) * factN n
/-- **Seeds repeat.** -/
theorem lotL_more : ∀ (f : Nat) (rest : List Int) (seed : Nat), rest.length ≤ f → lotL f rest (seed + factN rest.length) = lotL f rest seed
  | 0, rest, seed, h => rfl
  | f + 1, rest, seed, h => by
    by_cases h0 : rest.length = 0
    · rw [List.length_eq_zero_iff.1 h0, lotL_nil, lotL_nil]
    · obtain ⟨n, hn⟩ : ∃ n, rest.length = n + 1 := ⟨rest.length - 1, by omega⟩
      have hm := Nat.mod_lt seed (show 0 < rest.length by omega)
      have he : (rest.eraseIdx (seed % rest.length)).length = n := by rw [List.length_eraseIdx, if_pos hm]; omega
      have e1 : (seed + factN rest.length) % rest.length = seed % rest.length := by rw [hn, factN, Nat.add_mul_mod_self_left]
      have e2 : (seed + factN rest.length) / rest.length = seed / rest.length + factN n := by rw [hn, factN, Nat.add_mul_div_left _ _ (by omega)]
      rw [lotL_step f rest _ h0, lotL_step f rest _ h0, e1, e2]
      have := lotL_more f (rest.eraseIdx (seed % rest.length)) (seed / rest.length) (by omega)
      rw [he] at this
      rw [this]
/-- All candidates in ascending order. -/
def fromZero (n : Nat) : List Int := (List.range n).map fun (i : Nat) => (i : Int)
theorem fromZero_length (n : Nat) : (fromZero n).length = n := by simp [fromZero]
theorem fromZero_succ (n : Nat) : fromZero (n + 1) = fromZero n ++ [(n : Int)] := by simp [fromZero, List.range_succ]
theorem fromZero_lots {n : Nat} (h1 : 1 ≤ n) (h5 : n ≤ 5) : lotsB (fromZero n) = true := by
  unfold lotsB
  rw [fromZero_length]
  refine vB_of (by omega) (by omega) ?_ (fun z hz => ?_)
  · unfold fromZero List.Nodup
    rw [List.pairwise_map]
    exact List.Pairwise.imp (fun {a b} hab e => hab (by omega)) List.nodup_range
  · obtain ⟨i, hi, rfl⟩ := List.mem_map.1 hz
    have := List.mem_range.1 hi
    omega
/-- What LotsOf returns for n candidates. -/
def lotsOf (n seed : Nat) : List Int := lotL n (fromZero n) seed
theorem lotsOf_valid {n seed : Nat} (h1 : 1 ≤ n) (h5 : n ≤ 5) : lotsB (lotsOf n seed) = true := lotsB_perm (fromZero_lots h1 h5) (lotL_perm n _ seed (by rw [fromZero_length]; exact Nat.le_refl _))
theorem lotsOf_length (n seed : Nat) : (lotsOf n seed).length = n := by rw [lotsOf, lotL_length _ _ _ (by rw [fromZero_length]; exact Nat.le_refl _), fromZero_length]
theorem lotsOf_more (n seed : Nat) : lotsOf n (seed + factN n) = lotsOf n seed := by
  have := lotL_more n (fromZero n) seed (by rw [fromZero_length]; exact Nat.le_refl _)
  rwa [fromZero_length] at this
theorem lotsOf_mod (n seed : Nat) : lotsOf n seed = lotsOf n (seed % factN n) := by
  have h : ∀ q, lotsOf n (seed % factN n + q * factN n) = lotsOf n (seed % factN n) := fun q => by
    induction q with
    | zero => simp
    | succ q ih => rw [Nat.succ_mul, ← Nat.add_assoc, lotsOf_more, ih]
  have := h (seed / factN n)
  rwa [Nat.mul_comm, Nat.mod_add_div] at this
theorem lotsOf_head {n seed : Nat} (h1 : 1 ≤ n) : (lotsOf n seed)[0]?.getD 0 = ((seed % n : Nat) : Int) := by
  obtain ⟨k, rfl⟩ : ∃ k, n = k + 1 := ⟨n - 1, by omega⟩
  unfold lotsOf
  rw [lotL_step _ _ _ (by rw [fromZero_length]; omega), fromZero_length]
  have hm := Nat.mod_lt seed (show 0 < k + 1 by omega)
  simp [fromZero, hm]
/-- **Each order of two lots has a seed**: for each drawn order, one less than 120 has the first two exchanged. -/
theorem lots_swap_all : ∀ n, n < 6 → 2 ≤ n → ∀ s, s < factN n → ∃ q, q < 120 ∧ lotsOf n q = ((lotsOf n s)[1]?.getD 0) :: ((lotsOf n s)[0]?.getD 0) :: (lotsOf n s).drop 2 := by
  decide +kernel

/-- The first of the lots for whom 'some' is true, or -1. -/
def pickL : List Int → List Bool → Int
  | [], _ => -1
  | z :: t, L => if L[z.toNat]?.getD false = true then z else pickL t L

/-- The seal. -/
def sealV (seed secret : Int) : Int := (seed * 7919 + secret * 104729 + 12345) % 1000003
theorem small_mult {d c k m : Int} (hc : k * c = 1 + 1000003 * m) (hd : -999 ≤ d ∧ d ≤ 999) (h : (1000003 : Int) ∣ d * c) : d = 0 := by
  obtain ⟨q, hq⟩ := h
  have h1 : d = 1000003 * (k * q - m * d) := by
    have h2 : k * (d * c) = k * (1000003 * q) := by rw [hq]
    have h3 : k * (d * c) = d * (k * c) := by rw [← Int.mul_assoc, Int.mul_comm k d, Int.mul_assoc]
    rw [h3, hc, Int.mul_add, Int.mul_one] at h2
    have h4 : d * (1000003 * m) = 1000003 * (m * d) := by rw [Int.mul_left_comm, Int.mul_comm d m]
    have h5 : k * (1000003 * q) = 1000003 * (k * q) := by rw [Int.mul_left_comm]
    rw [h4, h5] at h2
    rw [Int.mul_sub]
    omega
  obtain ⟨r, hr⟩ : ∃ r, k * q - m * d = r := ⟨_, rfl⟩
  rw [hr] at h1
  omega
theorem lin_one (u v z k : Int) : u + z + k - (v + z + k) = u - v := by omega
theorem lin_two (u v z k : Int) : z + u + k - (z + v + k) = u - v := by omega
/-- **A sealed seed cannot be changed.** -/
theorem seal_seed {a b c : Int} (ha : 0 ≤ a ∧ a ≤ 999) (hb : 0 ≤ b ∧ b ≤ 999) (h : a ≠ b) : sealV a c ≠ sealV b c := by
  intro e
  have h1 := Int.dvd_of_emod_eq_zero (Int.emod_eq_emod_iff_emod_sub_eq_zero.1 e)
  have e2 := lin_one (a * 7919) (b * 7919) (c * 104729) 12345
  have e3 := e2.trans (Int.sub_mul a b 7919).symm
  have h2 : (1000003 : Int) ∣ (a - b) * 7919 := e3 ▸ h1
  clear e e2 e3 h1
  exact h (Int.sub_eq_zero.1 (small_mult (k := 658671) (m := 5216) (by decide) (by clear h2; omega) h2))
theorem seal_secret {a b c : Int} (ha : 0 ≤ a ∧ a ≤ 999) (hb : 0 ≤ b ∧ b ≤ 999) (h : a ≠ b) : sealV c a ≠ sealV c b := by
  intro e
  have h1 := Int.dvd_of_emod_eq_zero (Int.emod_eq_emod_iff_emod_sub_eq_zero.1 e)
  have e2 := lin_two (a * 104729) (b * 104729) (c * 7919) 12345
  have e3 := e2.trans (Int.sub_mul a b 104729).symm
  have h2 : (1000003 : Int) ∣ (a - b) * 104729 := e3 ▸ h1
  clear e e2 e3 h1
  exact h (Int.sub_eq_zero.1 (small_mult (k := 404531) (m := 42366) (by decide) (by clear h2; omega) h2))

end Go.Proofs.Ytojfpnjnbpeniaa
