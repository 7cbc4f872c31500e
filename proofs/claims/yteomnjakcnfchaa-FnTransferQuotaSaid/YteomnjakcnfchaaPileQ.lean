/-
  Piles, as lists: where ballots are put; two candidates exchanged. Of no memory.
-/
import Derived.Test.YteomnjakcnfchaaPileP
namespace Go.Proofs.Yteomnjakcnfchaa

theorem tAt_cons (p : Pl) (ps : List Pl) (i : Nat) : tAt (p :: ps) (i + 1) = tAt ps i := by simp [tAt]
theorem mAt_cons (p : Pl) (ps : List Pl) (i : Nat) : mAt (p :: ps) (i + 1) = mAt ps i := by simp [mAt]
/-- Ballots are put to the pile with their text. -/
theorem put_same {t : ByteArray} {m : Int} : ∀ {ps : List Pl} {k : Nat}, (∀ j, j < k → tl (tAt ps j) t = true) → k < ps.length → tAt ps k = t → putL ps t m = ps.set k (t, mAt ps k + m)
  | [], k, _, h, _ => by simp at h
  | p :: ps, 0, _, _, he => by
    have e : p.1 = t := by simpa [tAt] using he
    have hn : ¬ tl p.1 t = true := by rw [e, tl_irrefl]; simp
    rw [putL, if_neg hn, if_pos e]
    simp [mAt]
  | p :: ps, k + 1, h, hk, he => by
    have h0 : tl p.1 t = true := by simpa [tAt] using h 0 (by omega)
    rw [tAt_cons] at he
    have ih := put_same (m := m) (ps := ps) (k := k) (fun j hj => by have := h (j + 1) (by omega); rwa [tAt_cons] at this) (by simpa using hk) he
    rw [putL, if_pos h0, ih, mAt_cons]
    rfl
/-- Ballots are put in a new pile. -/
theorem put_new {t : ByteArray} {m : Int} : ∀ {ps : List Pl} {k : Nat}, (∀ j, j < k → tl (tAt ps j) t = true) → k ≤ ps.length → (k < ps.length → tl (tAt ps k) t = false ∧ tAt ps k ≠ t) → putL ps t m = ps.take k ++ (t, m) :: ps.drop k
  | [], k, _, hk, _ => by
    obtain rfl : k = 0 := by simpa using hk
    rfl
  | p :: ps, 0, _, _, h => by
    obtain ⟨h1, h2⟩ := h (by simp)
    have e1 : ¬ tl p.1 t = true := by simpa [tAt] using h1
    have e2 : ¬ p.1 = t := by simpa [tAt] using h2
    rw [putL, if_neg e1, if_neg e2]; rfl
  | p :: ps, k + 1, h, hk, hs => by
    have h0 : tl p.1 t = true := by simpa [tAt] using h 0 (by omega)
    have ih := put_new (m := m) (ps := ps) (k := k) (fun j hj => by have := h (j + 1) (by omega); rwa [tAt_cons] at this) (by simpa using hk)
      (fun hl => by have := hs (by simpa using hl); rwa [tAt_cons] at this)
    rw [putL, if_pos h0, ih]; rfl

/-- One of two candidates in place of the other. -/
def swapC (x y z : Int) : Int := if z = x then y else if z = y then x else z
theorem swapC_twice (x y z : Int) : swapC x y (swapC x y z) = z := by
  unfold swapC
  by_cases h1 : z = x
  · subst h1
    rw [if_pos rfl]
    by_cases h2 : y = z
    · rw [if_pos h2]; exact h2
    · rw [if_neg h2, if_pos rfl]
  · rw [if_neg h1]
    by_cases h2 : z = y
    · subst h2; rw [if_pos rfl, if_pos rfl]
    · rw [if_neg h2, if_neg h1, if_neg h2]
theorem swapC_same (x z : Int) : swapC x x z = z := by
  unfold swapC
  by_cases h : z = x
  · rw [if_pos h]; exact h.symm
  · rw [if_neg h, if_neg h]
def turnB (x y : Int) (zs : List Int) : List Int := zs.map (swapC x y)
theorem turnB_twice (x y : Int) (zs : List Int) : turnB x y (turnB x y zs) = zs := by
  unfold turnB
  rw [List.map_map]
  conv => rhs; rw [← List.map_id zs]
  apply List.map_congr_left
  intro z _
  exact swapC_twice x y z
theorem turnB_same (x : Int) (zs : List Int) : turnB x x zs = zs := by
  unfold turnB
  conv => rhs; rw [← List.map_id zs]
  apply List.map_congr_left
  intro z _
  exact swapC_same x z
theorem turnB_valid {x y : Int} (hx : 0 ≤ x ∧ x ≤ 4) (hy : 0 ≤ y ∧ y ≤ 4) {zs : List Int} (h : validB zs 5 = true) : validB (turnB x y zs) 5 = true := by
  have hm := vB_mem h
  have hd := vB_nodup h
  refine vB_of (by omega) (by omega) ?_ (fun z hz => ?_)
  · unfold turnB List.Nodup
    rw [List.pairwise_map]
    refine List.Pairwise.imp (fun {a b} hab e => hab ?_) hd
    rw [← swapC_twice x y a, e, swapC_twice]
  · obtain ⟨q, hq, rfl⟩ := List.mem_map.1 hz
    have := hm.2.2 q hq
    unfold swapC
    split
    · omega
    · split <;> omega
/-- A text with two candidates exchanged. -/
def turnT (x y : Int) (s : ByteArray) : ByteArray := txtB (turnB x y (parseL s))
theorem turnT_valid {x y : Int} (hx : 0 ≤ x ∧ x ≤ 4) (hy : 0 ≤ y ∧ y ≤ 4) {s : ByteArray} (h : validB (nums s) 5 = true) : validB (nums (turnT x y s)) 5 = true := by
  unfold turnT
  rw [parseL_ok h]
  exact txtB_ok (turnB_valid hx hy h)
theorem turnT_twice {x y : Int} (hx : 0 ≤ x ∧ x ≤ 4) (hy : 0 ≤ y ∧ y ≤ 4) {s : ByteArray} (h : validB (nums s) 5 = true) : turnT x y (turnT x y s) = s := by
  have h1 := turnB_valid hx hy h
  unfold turnT
  rw [parseL_ok h, txtB_parse h1, turnB_twice, txtB_nums' h]

/-- The piles with two candidates exchanged on all ballots. -/
def turnPs (x y : Int) (ps : List Pl) : List Pl := mergeL [] (ps.map fun p => (turnT x y p.1, p.2))
theorem asc_nil : Asc [] := List.Pairwise.nil
theorem turnPs_asc (x y : Int) (ps : List Pl) : Asc (turnPs x y ps) := asc_merge asc_nil _
theorem turnPs_pos {x y : Int} {ps : List Pl} (h : ∀ p ∈ ps, 1 ≤ p.2) : ∀ q ∈ turnPs x y ps, 1 ≤ q.2 := by
  refine pos_merge (fun p hp => by cases hp) (fun p hp => ?_)
  obtain ⟨q, hq, rfl⟩ := List.mem_map.1 hp
  exact h q hq
theorem tot_turned {x y : Int} (hx : 0 ≤ x ∧ x ≤ 4) (hy : 0 ≤ y ∧ y ≤ 4) {ps : List Pl} (hv : ∀ p ∈ ps, validB (nums p.1) 5 = true) {u : ByteArray} (hu : validB (nums u) 5 = true) : tot (turnPs x y ps) u = tot ps (turnT x y u) := by
  unfold turnPs
  rw [tot_merge]
  simp only [tot, Int.zero_add]
  induction ps with
  | nil => rfl
  | cons p ps ih =>
    rw [List.map_cons, tot, tot, ih (fun q hq => hv q (by simp [hq]))]
    have hp := hv p (by simp)
    by_cases e : turnT x y p.1 = u
    · have e2 : p.1 = turnT x y u := by rw [← e, turnT_twice hx hy hp]
      rw [if_pos e, if_pos e2]
    · have e2 : ¬ p.1 = turnT x y u := fun h => e (by rw [h, turnT_twice hx hy hu])
      rw [if_neg e, if_neg e2]
theorem merge_texts {a b : List Pl} : ∀ q ∈ mergeL a b, (∃ p ∈ a, p.1 = q.1) ∨ ∃ p ∈ b, p.1 = q.1 := by
  induction b generalizing a with
  | nil => intro q hq; exact .inl ⟨q, hq, rfl⟩
  | cons r b ih =>
    intro q hq
    rcases ih q hq with ⟨p, hp, e⟩ | ⟨p, hp, e⟩
    · rcases put_texts p hp with e2 | ⟨s, hs, e2⟩
      · exact .inr ⟨r, by simp, by rw [← e, e2]⟩
      · exact .inl ⟨s, hs, by rw [e2, e]⟩
    · exact .inr ⟨p, by simp [hp], e⟩
theorem turnPs_texts {x y : Int} (hx : 0 ≤ x ∧ x ≤ 4) (hy : 0 ≤ y ∧ y ≤ 4) {ps : List Pl} (hv : ∀ p ∈ ps, validB (nums p.1) 5 = true) : ∀ q ∈ turnPs x y ps, validB (nums q.1) 5 = true := by
  intro q hq
  rcases merge_texts q hq with ⟨p, hp, _⟩ | ⟨p, hp, e⟩
  · cases hp
  · obtain ⟨r, hr, rfl⟩ := List.mem_map.1 hp
    rw [← e]
    exact turnT_valid hx hy (hv r hr)
theorem tot_most {ps : List Pl} (h : Asc ps) (h99 : ∀ p ∈ ps, p.2 ≤ 99) (u : ByteArray) : tot ps u ≤ 99 := by
  by_cases hu : ∃ p ∈ ps, p.1 = u
  · obtain ⟨p, hp, rfl⟩ := hu
    rw [tot_mem h p hp]; exact h99 p hp
  · rw [tot_none (fun p hp e => hu ⟨p, hp, e⟩)]; omega
theorem turnPs_short (x y : Int) (ps : List Pl) : (turnPs x y ps).length ≤ ps.length := by
  have := (merge_longer [] (ps.map fun p => (turnT x y p.1, p.2))).2
  simpa [turnPs] using this
/-- **Exchanged piles are valid.** -/
theorem turn_valid {x y : Int} (hx : 0 ≤ x ∧ x ≤ 4) (hy : 0 ≤ y ∧ y ≤ 4) {ps : List Pl} (h : pilesB ps = true) : pilesB (turnPs x y ps) = true := by
  obtain ⟨h1, h2, h3, h4, h5⟩ := pilesB_pos h
  refine (pilesB_iff _).2 ⟨fun q hq => ?_, turnPs_asc x y ps, by have := turnPs_short x y ps; omega⟩
  have hv := turnPs_texts hx hy h4 q hq
  refine (pileB_iff _ _).2 ⟨hv, turnPs_pos h2 q hq, ?_⟩
  rw [← tot_mem (turnPs_asc x y ps) q hq, tot_turned hx hy h4 hv]
  exact tot_most h1 h3 _
/-- **Exchanging twice changes nothing.** -/
theorem turn_twice {x y : Int} (hx : 0 ≤ x ∧ x ≤ 4) (hy : 0 ≤ y ∧ y ≤ 4) {ps : List Pl} (h : pilesB ps = true) : turnPs x y (turnPs x y ps) = ps := by
  obtain ⟨h1, h2, h3, h4, h5⟩ := pilesB_pos h
  have hv := turnPs_texts hx hy h4
  refine piles_ext (turnPs_asc _ _ _) h1 (turnPs_pos (turnPs_pos h2)) h2 (fun u => ?_)
  cases hu : validB (nums u) 5
  · rw [tot_none (fun q hq e => ?_), tot_none (fun p hp e => ?_)]
    · have := h4 p hp; rw [e, hu] at this; cases this
    · have := turnPs_texts hx hy hv q hq; rw [e, hu] at this; cases this
  · rw [tot_turned hx hy hv hu, tot_turned hx hy h4 (turnT_valid hx hy hu), turnT_twice hx hy hu]
theorem turn_sum (x y : Int) (ps : List Pl) : sumL (turnPs x y ps) = sumL ps := by
  unfold turnPs
  rw [sumL_merge]
  have : sumL (ps.map fun p => (turnT x y p.1, p.2)) = sumL ps := by
    induction ps with
    | nil => rfl
    | cons p ps ih => rw [List.map_cons, sumL_cons, sumL_cons, ih]
  rw [this]; simp [sumL]
theorem turn_length {x y : Int} (hx : 0 ≤ x ∧ x ≤ 4) (hy : 0 ≤ y ∧ y ≤ 4) {ps : List Pl} (h : pilesB ps = true) : (turnPs x y ps).length = ps.length := by
  have h1 := turnPs_short x y ps
  have h2 := turnPs_short x y (turnPs x y ps)
  rw [turn_twice hx hy h] at h2
  omega

/-- What PilesAdd returns. -/
def addB (ps : List Pl) (t : ByteArray) (m : Int) : Bool := pilesB ps && (pileB t m && pilesB (putL ps t m))
def addL (ps : List Pl) (t : ByteArray) (m : Int) : List Pl := if addB ps t m = true then putL ps t m else []
/-- What PilesMerge returns. -/
def joinB (a b : List Pl) : Bool := pilesB a && (pilesB b && pilesB (mergeL a b))
def joinL (a b : List Pl) : List Pl := if joinB a b = true then mergeL a b else []
/-- What PilesTotal returns. -/
def totalL (ps : List Pl) : Int := if pilesB ps = true then sumL ps else -1
/-- What PilesTurn returns. -/
def canB (ps : List Pl) (x y : Int) : Bool := pilesB ps && (inB x 0 4 && inB y 0 4)
def canL (ps : List Pl) (x y : Int) : List Pl := if canB ps x y = true then turnPs x y ps else []
theorem addB_iff (ps : List Pl) (t : ByteArray) (m : Int) : addB ps t m = true ↔ pilesB ps = true ∧ pileB t m = true ∧ pilesB (putL ps t m) = true := by simp [addB]
theorem joinB_iff (a b : List Pl) : joinB a b = true ↔ pilesB a = true ∧ pilesB b = true ∧ pilesB (mergeL a b) = true := by simp [joinB]
theorem canB_iff (ps : List Pl) (x y : Int) : canB ps x y = true ↔ pilesB ps = true ∧ (0 ≤ x ∧ x ≤ 4) ∧ (0 ≤ y ∧ y ≤ 4) := by simp [canB, inB]
/-- P15. -/
theorem law_add {ps : List Pl} {t : ByteArray} {m : Int} (h : addB ps t m = true) : pilesB (addL ps t m) = true ∧ totalL (addL ps t m) = totalL ps + m := by
  obtain ⟨h1, h2, h3⟩ := (addB_iff _ _ _).1 h
  rw [addL, if_pos h]
  exact ⟨h3, by rw [totalL, if_pos h3, totalL, if_pos h1, sumL_put]⟩
/-- P16. -/
theorem law_two {ps : List Pl} {t : ByteArray} {k n : Int} (h : addB ps t (k + n) = true) (hk : 1 ≤ k) (hn : 1 ≤ n) : addB ps t k = true ∧ addB (addL ps t k) t n = true ∧ addL (addL ps t k) t n = addL ps t (k + n) := by
  obtain ⟨h1, h2, h3⟩ := (addB_iff _ _ _).1 h
  obtain ⟨v1, v2, v3⟩ := (pileB_iff _ _).1 h2
  obtain ⟨a1, a2, _⟩ := pilesB_pos h1
  have e := put_two h1 t k n hk hn
  have h4 : pilesB (putL ps t k) = true := valid_before (b := [(t, n)]) (by show pilesB (putL (putL ps t k) t n) = true; rw [e]; exact h3) (asc_put a1 _ _) (pos_put a2 hk) (fun p hp => by rw [List.mem_singleton.1 hp]; exact hn)
  have b1 : addB ps t k = true := (addB_iff _ _ _).2 ⟨h1, (pileB_iff _ _).2 ⟨v1, hk, by omega⟩, h4⟩
  have e1 : addL ps t k = putL ps t k := by rw [addL, if_pos b1]
  have b2 : addB (putL ps t k) t n = true := (addB_iff _ _ _).2 ⟨h4, (pileB_iff _ _).2 ⟨v1, hn, by omega⟩, by rw [e]; exact h3⟩
  exact ⟨b1, by rw [e1]; exact b2, by rw [e1, addL, if_pos b2, e, addL, if_pos h]⟩
/-- P17. -/
theorem law_join {a b : List Pl} (h : joinB a b = true) : joinB b a = true ∧ joinL b a = joinL a b ∧ totalL (joinL a b) = totalL a + totalL b ∧ pilesB (joinL a b) = true := by
  obtain ⟨h1, h2, h3⟩ := (joinB_iff _ _).1 h
  have e := merge_comm h1 h2
  have hb : joinB b a = true := (joinB_iff _ _).2 ⟨h2, h1, by rw [← e]; exact h3⟩
  have e1 : joinL a b = mergeL a b := by rw [joinL, if_pos h]
  exact ⟨hb, by rw [e1, joinL, if_pos hb, e], by rw [e1, totalL, if_pos h3, totalL, if_pos h1, totalL, if_pos h2, sumL_merge], by rw [e1]; exact h3⟩
/-- P18. -/
theorem law_parts {a b : List Pl} (h : joinB a b = true) (k : Nat) : joinB a (b.take k) = true ∧ joinB (joinL a (b.take k)) (b.drop k) = true ∧ joinL (joinL a (b.take k)) (b.drop k) = joinL a b := by
  obtain ⟨h1, h2, h3⟩ := (joinB_iff _ _).1 h
  obtain ⟨a1, a2, _⟩ := pilesB_pos h1
  obtain ⟨_, p2, _⟩ := pilesB_pos h2
  have e : mergeL (mergeL a (b.take k)) (b.drop k) = mergeL a b := by rw [← mergeL_app, List.take_append_drop]
  have ht := piles_sub h2 (List.take_sublist k b)
  have hd := piles_sub h2 (List.drop_sublist k b)
  have h4 : pilesB (mergeL a (b.take k)) = true := valid_before (b := b.drop k) (by rw [e]; exact h3) (asc_merge a1 _) (pos_merge a2 (fun p hp => p2 p (List.mem_of_mem_take hp))) (fun p hp => p2 p (List.mem_of_mem_drop hp))
  have b1 : joinB a (b.take k) = true := (joinB_iff _ _).2 ⟨h1, ht, h4⟩
  have e1 : joinL a (b.take k) = mergeL a (b.take k) := by rw [joinL, if_pos b1]
  have b2 : joinB (mergeL a (b.take k)) (b.drop k) = true := (joinB_iff _ _).2 ⟨h4, hd, by rw [e]; exact h3⟩
  exact ⟨b1, by rw [e1]; exact b2, by rw [e1, joinL, if_pos b2, e, joinL, if_pos h]⟩
/-- P19: one pile more. -/
theorem law_each {a b : List Pl} (h : joinB a b = true) (k : Nat) (hk : k < b.length) : addB (mergeL a (b.take k)) (tAt b k) (mAt b k) = true ∧ addL (mergeL a (b.take k)) (tAt b k) (mAt b k) = mergeL a (b.take (k + 1)) := by
  obtain ⟨h1, h2, h3⟩ := (joinB_iff _ _).1 h
  obtain ⟨a1, a2, _⟩ := pilesB_pos h1
  obtain ⟨_, p2, _⟩ := pilesB_pos h2
  have valid : ∀ j, pilesB (mergeL a (b.take j)) = true := fun j => by
    have e : mergeL (mergeL a (b.take j)) (b.drop j) = mergeL a b := by rw [← mergeL_app, List.take_append_drop]
    exact valid_before (b := b.drop j) (by rw [e]; exact h3) (asc_merge a1 _) (pos_merge a2 (fun p hp => p2 p (List.mem_of_mem_take hp))) (fun p hp => p2 p (List.mem_of_mem_drop hp))
  have e1 : mergeL a (b.take (k + 1)) = putL (mergeL a (b.take k)) (tAt b k) (mAt b k) := by
    rw [List.take_succ_eq_append_getElem hk, mergeL_snoc]
    simp [tAt, mAt, hk]
  have hp : pileB (tAt b k) (mAt b k) = true := by
    have := ((pilesB_iff b).1 h2).1 _ (List.getElem_mem hk)
    simpa [tAt, mAt, hk] using this
  have b1 : addB (mergeL a (b.take k)) (tAt b k) (mAt b k) = true := (addB_iff _ _ _).2 ⟨valid k, hp, by rw [← e1]; exact valid (k + 1)⟩
  exact ⟨b1, by rw [addL, if_pos b1, e1]⟩
/-- P20. -/
theorem law_turn {ps : List Pl} {x y : Int} (h : canB ps x y = true) : canB (canL ps x y) x y = true ∧ canL (canL ps x y) x y = ps ∧ totalL (canL ps x y) = totalL ps ∧ (canL ps x y).length = ps.length := by
  obtain ⟨h1, hx, hy⟩ := (canB_iff _ _ _).1 h
  have hv := turn_valid hx hy h1
  have e1 : canL ps x y = turnPs x y ps := by rw [canL, if_pos h]
  have b2 : canB (turnPs x y ps) x y = true := (canB_iff _ _ _).2 ⟨hv, hx, hy⟩
  rw [e1]
  exact ⟨b2, by rw [canL, if_pos b2, turn_twice hx hy h1], by rw [totalL, if_pos hv, totalL, if_pos h1, turn_sum], turn_length hx hy h1⟩

end Go.Proofs.Yteomnjakcnfchaa
