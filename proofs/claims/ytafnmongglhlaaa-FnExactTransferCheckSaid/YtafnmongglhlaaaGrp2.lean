/-
  Piles, as lists: where ballots are put; two candidates exchanged. Of no memory.
  What a slice of ints that the call owns says to a reader; lists that are filled, or compared. No condition but what each theorem says.
  A list that a call returns with a bool (Told); a block of the call's own is kept. No condition but what each theorem says.
  What a slice of piles holds: two cells a pile, its text and its number. Of any type of two cells; no function of the seat.
  The iterators slices.Values at ints, letterCandidates and ballotCandidates: each yields its list in order, to every loop body that keeps what lay below. No condition but what each theorem says.
-/
import Derived.Test.YtafnmongglhlaaaGrp1
import Derived.Laws.OwnMore
import Derived.OwnWalk
import Derived.Deep.Onto
import Derived.RangeFuncBox
import Derived.RangeFuncLeaves
import Derived.Shelf.Abstract
import Derived.OwnWalkIn
import Derived.TacticsInMore
import Derived.LoopNIn
import Derived.LoopIn
namespace Go.Proofs.Ytafnmongglhlaaa

theorem tAt_cons (p : Pl) (ps : List Pl) (i : Nat) : tAt (p :: ps) (i + 1) = tAt ps i := by simp [tAt]
theorem mAt_cons (p : Pl) (ps : List Pl) (i : Nat) : mAt (p :: ps) (i + 1) = mAt ps i := by simp [mAt]
/-- Ballots are put to the pile with their text. -/
theorem put_same {t : ByteArray} {m : Int} : ∀ {ps : List Pl} {k : Nat}, (∀ j, j < k → tl (tAt ps j) t = true) → k < ps.length → tAt ps k = t → putL ps t m = ps.set k (t, mAt ps k + m)
  | [], k, _, h, _ => by simp at h
  | p :: ps, 0, _, _, he => by
    have e : p.1 = t := by simpa [tAt] using he
    have hn : ¬ tl p.1 t = true := by rw [e, tl_irrefl]; simp
    rw [putL, if_neg hn, if_pos e]
    simp [mAt]
  | p :: ps, k + 1, h, hk, he => by
    have h0 : tl p.1 t = true := by simpa [tAt] using h 0 (by omega)
    rw [tAt_cons] at he
    have ih := put_same (m := m) (ps := ps) (k := k) (fun j hj => by have := h (j + 1) (by omega); rwa [tAt_cons] at this) (by simpa using hk) he
    rw [putL, if_pos h0, ih, mAt_cons]
    rfl
/-- Ballots are put in a new pile. -/
theorem put_new {t : ByteArray} {m : Int} : ∀ {ps : List Pl} {k : Nat}, (∀ j, j < k → tl (tAt ps j) t = true) → k ≤ ps.length → (k < ps.length → tl (tAt ps k) t = false ∧ tAt ps k ≠ t) → putL ps t m = ps.take k ++ (t, m) :: ps.drop k
  | [], k, _, hk, _ => by
    obtain rfl : k = 0 := by simpa using hk
    rfl
  | p :: ps, 0, _, _, h => by
    obtain ⟨h1, h2⟩ := h (by simp)
    have e1 : ¬ tl p.1 t = true := by simpa [tAt] using h1
    have e2 : ¬ p.1 = t := by simpa [tAt] using h2
    rw [putL, if_neg e1, if_neg e2]; rfl
  | p :: ps, k + 1, h, hk, hs => by
    have h0 : tl p.1 t = true := by simpa [tAt] using h 0 (by omega)
    have ih := put_new (m := m) (ps := ps) (k := k) (fun j hj => by have := h (j + 1) (by omega); rwa [tAt_cons] at this) (by simpa using hk)
      (fun hl => by have := hs (by simpa using hl); rwa [tAt_cons] at this)
    rw [putL, if_pos h0, ih]; rfl

/-- One of two candidates in place of the other. -/
def swapC (x y z : Int) : Int := if z = x then y else if z = y then x else z
theorem swapC_twice (x y z : Int) : swapC x y (swapC x y z) = z := by
  unfold swapC
  by_cases h1 : z = x
  · subst h1
    rw [if_pos rfl]
    by_cases h2 : y = z
    · rw [if_pos h2]; exact h2
    · rw [if_neg h2, if_pos rfl]
  · rw [if_neg h1]
    by_cases h2 : z = y
    · subst h2; rw [if_pos rfl, if_pos rfl]
    · rw [if_neg h2, if_neg h1, if_neg h2]
theorem swapC_same (x z : Int) : swapC x x z = z := by
  unfold swapC
  by_cases h : z = x
  · rw [if_pos h]; exact h.symm
  · rw [if_neg h, if_neg h]
def turnB (x y : Int) (zs : List Int) : List Int := zs.map (swapC x y)
theorem turnB_twice (x y : Int) (zs : List Int) : turnB x y (turnB x y zs) = zs := by
  unfold turnB
  rw [List.map_map]
  conv => rhs; rw [← List.map_id zs]
  apply List.map_congr_left
  intro z _
  exact swapC_twice x y z
theorem turnB_same (x : Int) (zs : List Int) : turnB x x zs = zs := by
  unfold turnB
  conv => rhs; rw [← List.map_id zs]
  apply List.map_congr_left
  intro z _
  exact swapC_same x z
theorem turnB_valid {x y : Int} (hx : 0 ≤ x ∧ x ≤ 4) (hy : 0 ≤ y ∧ y ≤ 4) {zs : List Int} (h : validB zs 5 = true) : validB (turnB x y zs) 5 = true := by
  have hm := vB_mem h
  have hd := vB_nodup h
  refine vB_of (by omega) (by omega) ?_ (fun z hz => ?_)
  · unfold turnB List.Nodup
    rw [List.pairwise_map]
    refine List.Pairwise.imp (fun {a b} hab e => hab ?_) hd
    rw [← swapC_twice x y a, e, swapC_twice]
  · obtain ⟨q, hq, rfl⟩ := List.mem_map.1 hz
    have := hm.2.2 q hq
    unfold swapC
    split
    · omega
    · split <;> omega
/-- A text with two candidates exchanged. -/
def turnT (x y : Int) (s : ByteArray) : ByteArray := txtB (turnB x y (parseL s))
theorem turnT_valid {x y : Int} (hx : 0 ≤ x ∧ x ≤ 4) (hy : 0 ≤ y ∧ y ≤ 4) {s : ByteArray} (h : validB (nums s) 5 = true) : validB (nums (turnT x y s)) 5 = true := by
  unfold turnT
  rw [parseL_ok h]
  exact txtB_ok (turnB_valid hx hy h)
theorem turnT_twice {x y : Int} (hx : 0 ≤ x ∧ x ≤ 4) (hy : 0 ≤ y ∧ y ≤ 4) {s : ByteArray} (h : validB (nums s) 5 = true) : turnT x y (turnT x y s) = s := by
  have h1 := turnB_valid hx hy h
  unfold turnT
  rw [parseL_ok h, txtB_parse h1, turnB_twice, txtB_nums' h]

/-- The piles with two candidates exchanged on all ballots. -/
def turnPs (x y : Int) (ps : List Pl) : List Pl := mergeL [] (ps.map fun p => (turnT x y p.1, p.2))
theorem asc_nil : Asc [] := List.Pairwise.nil
theorem turnPs_asc (x y : Int) (ps : List Pl) : Asc (turnPs x y ps) := asc_merge asc_nil _
theorem turnPs_pos {x y : Int} {ps : List Pl} (h : ∀ p ∈ ps, 1 ≤ p.2) : ∀ q ∈ turnPs x y ps, 1 ≤ q.2 := by
  refine pos_merge (fun p hp => by cases hp) (fun p hp => ?_)
  obtain ⟨q, hq, rfl⟩ := List.mem_map.1 hp
  exact h q hq
theorem tot_turned {x y : Int} (hx : 0 ≤ x ∧ x ≤ 4) (hy : 0 ≤ y ∧ y ≤ 4) {ps : List Pl} (hv : ∀ p ∈ ps, validB (nums p.1) 5 = true) {u : ByteArray} (hu : validB (nums u) 5 = true) : tot (turnPs x y ps) u = tot ps (turnT x y u) := by
  unfold turnPs
  rw [tot_merge]
  simp only [tot, Int.zero_add]
  induction ps with
  | nil => rfl
  | cons p ps ih =>
    rw [List.map_cons, tot, tot, ih (fun q hq => hv q (by simp [hq]))]
    have hp := hv p (by simp)
    by_cases e : turnT x y p.1 = u
    · have e2 : p.1 = turnT x y u := by rw [← e, turnT_twice hx hy hp]
      rw [if_pos e, if_pos e2]
    · have e2 : ¬ p.1 = turnT x y u := fun h => e (by rw [h, turnT_twice hx hy hu])
      rw [if_neg e, if_neg e2]
theorem merge_texts {a b : List Pl} : ∀ q ∈ mergeL a b, (∃ p ∈ a, p.1 = q.1) ∨ ∃ p ∈ b, p.1 = q.1 := by
  induction b generalizing a with
  | nil => intro q hq; exact .inl ⟨q, hq, rfl⟩
  | cons r b ih =>
    intro q hq
    rcases ih q hq with ⟨p, hp, e⟩ | ⟨p, hp, e⟩
    · rcases put_texts p hp with e2 | ⟨s, hs, e2⟩
      · exact .inr ⟨r, by simp, by rw [← e, e2]⟩
      · exact .inl ⟨s, hs, by rw [e2, e]⟩
    · exact .inr ⟨p, by simp [hp], e⟩
theorem turnPs_texts {x y : Int} (hx : 0 ≤ x ∧ x ≤ 4) (hy : 0 ≤ y ∧ y ≤ 4) {ps : List Pl} (hv : ∀ p ∈ ps, validB (nums p.1) 5 = true) : ∀ q ∈ turnPs x y ps, validB (nums q.1) 5 = true := by
  intro q hq
  rcases merge_texts q hq with ⟨p, hp, _⟩ | ⟨p, hp, e⟩
  · cases hp
  · obtain ⟨r, hr, rfl⟩ := List.mem_map.1 hp
    rw [← e]
    exact turnT_valid hx hy (hv r hr)
theorem tot_most {ps : List Pl} (h : Asc ps) (h99 : ∀ p ∈ ps, p.2 ≤ 99) (u : ByteArray) : tot ps u ≤ 99 := by
  by_cases hu : ∃ p ∈ ps, p.1 = u
  · obtain ⟨p, hp, rfl⟩ := hu
    rw [tot_mem h p hp]; exact h99 p hp
  · rw [tot_none (fun p hp e => hu ⟨p, hp, e⟩)]; omega
theorem turnPs_short (x y : Int) (ps : List Pl) : (turnPs x y ps).length ≤ ps.length := by
  have := (merge_longer [] (ps.map fun p => (turnT x y p.1, p.2))).2
  simpa [turnPs] using this
/-- **Exchanged piles are valid.** -/
theorem turn_valid {x y : Int} (hx : 0 ≤ x ∧ x ≤ 4) (hy : 0 ≤ y ∧ y ≤ 4) {ps : List Pl} (h : pilesB ps = true) : pilesB (turnPs x y ps) = true := by
  obtain ⟨h1, h2, h3, h4, h5⟩ := pilesB_pos h
  refine (pilesB_iff _).2 ⟨fun q hq => ?_, turnPs_asc x y ps, by have := turnPs_short x y ps; omega⟩
  have hv := turnPs_texts hx hy h4 q hq
  refine (pileB_iff _ _).2 ⟨hv, turnPs_pos h2 q hq, ?_⟩
  rw [← tot_mem (turnPs_asc x y ps) q hq, tot_turned hx hy h4 hv]
  exact tot_most h1 h3 _
/-- **Exchanging twice changes nothing.** -/
theorem turn_twice {x y : Int} (hx : 0 ≤ x ∧ x ≤ 4) (hy : 0 ≤ y ∧ y ≤ 4) {ps : List Pl} (h : pilesB ps = true) : turnPs x y (turnPs x y ps) = ps := by
  obtain ⟨h1, h2, h3, h4, h5⟩ := pilesB_pos h
  have hv := turnPs_texts hx hy h4
  refine piles_ext (turnPs_asc _ _ _) h1 (turnPs_pos (turnPs_pos h2)) h2 (fun u => ?_)
  cases hu : validB (nums u) 5
  · rw [tot_none (fun q hq e => ?_), tot_none (fun p hp e => ?_)]
    · have := h4 p hp; rw [e, hu] at this; cases this
    · have := turnPs_texts hx hy hv q hq; rw [e, hu] at this; cases this
  · rw [tot_turned hx hy hv hu, tot_turned hx hy h4 (turnT_valid hx hy hu), turnT_twice hx hy hu]
theorem turn_sum (x y : Int) (ps : List Pl) : sumL (turnPs x y ps) = sumL ps := by
  unfold turnPs
  rw [sumL_merge]
  have : sumL (ps.map fun p => (turnT x y p.1, p.2)) = sumL ps := by
    induction ps with
    | nil => rfl
    | cons p ps ih => rw [List.map_cons, sumL_cons, sumL_cons, ih]
  rw [this]; simp [sumL]
theorem turn_length {x y : Int} (hx : 0 ≤ x ∧ x ≤ 4) (hy : 0 ≤ y ∧ y ≤ 4) {ps : List Pl} (h : pilesB ps = true) : (turnPs x y ps).length = ps.length := by
  have h1 := turnPs_short x y ps
  have h2 := turnPs_short x y (turnPs x y ps)
  rw [turn_twice hx hy h] at h2
  omega

/-- What PilesAdd returns. -/
def addB (ps : List Pl) (t : ByteArray) (m : Int) : Bool := pilesB ps && (pileB t m && pilesB (putL ps t m))
def addL (ps : List Pl) (t : ByteArray) (m : Int) : List Pl := if addB ps t m = true then putL ps t m else []
/-- What PilesMerge returns. -/
def joinB (a b : List Pl) : Bool := pilesB a && (pilesB b && pilesB (mergeL a b))
def joinL (a b : List Pl) : List Pl := if joinB a b = true then mergeL a b else []
/-- What PilesTotal returns. -/
def totalL (ps : List Pl) : Int := if pilesB ps = true then sumL ps else -1
/-- What PilesTurn returns. -/
def canB (ps : List Pl) (x y : Int) : Bool := pilesB ps && (inB x 0 4 && inB y 0 4)
def canL (ps : List Pl) (x y : Int) : List Pl := if canB ps x y = true then turnPs x y ps else []
theorem addB_iff (ps : List Pl) (t : ByteArray) (m : Int) : addB ps t m = true ↔ pilesB ps = true ∧ pileB t m = true ∧ pilesB (putL ps t m) = true := by simp [addB]
theorem joinB_iff (a b : List Pl) : joinB a b = true ↔ pilesB a = true ∧ pilesB b = true ∧ pilesB (mergeL a b) = true := by simp [joinB]
theorem canB_iff (ps : List Pl) (x y : Int) : canB ps x y = true ↔ pilesB ps = true ∧ (0 ≤ x ∧ x ≤ 4) ∧ (0 ≤ y ∧ y ≤ 4) := by simp [canB, inB]
/-- P15. -/
theorem law_add {ps : List Pl} {t : ByteArray} {m : Int} (h : addB ps t m = true) : pilesB (addL ps t m) = true ∧ totalL (addL ps t m) = totalL ps + m := by
  obtain ⟨h1, h2, h3⟩ := (addB_iff _ _ _).1 h
  rw [addL, if_pos h]
  exact ⟨h3, by rw [totalL, if_pos h3, totalL, if_pos h1, sumL_put]⟩
/-- P16. -/
theorem law_two {ps : List Pl} {t : ByteArray} {k n : Int} (h : addB ps t (k + n) = true) (hk : 1 ≤ k) (hn : 1 ≤ n) : addB ps t k = true ∧ addB (addL ps t k) t n = true ∧ addL (addL ps t k) t n = addL ps t (k + n) := by
  obtain ⟨h1, h2, h3⟩ := (addB_iff _ _ _).1 h
  obtain ⟨v1, v2, v3⟩ := (pileB_iff _ _).1 h2
  obtain ⟨a1, a2, _⟩ := pilesB_pos h1
  have e := put_two h1 t k n hk hn
  have h4 : pilesB (putL ps t k) = true := valid_before (b := [(t, n)]) (by show pilesB (putL (putL ps t k) t n) = true; rw [e]; exact h3) (asc_put a1 _ _) (pos_put a2 hk) (fun p hp => by rw [List.mem_singleton.1 hp]; exact hn)
  have b1 : addB ps t k = true := (addB_iff _ _ _).2 ⟨h1, (pileB_iff _ _).2 ⟨v1, hk, by omega⟩, h4⟩
  have e1 : addL ps t k = putL ps t k := by rw [addL, if_pos b1]
  have b2 : addB (putL ps t k) t n = true := (addB_iff _ _ _).2 ⟨h4, (pileB_iff _ _).2 ⟨v1, hn, by omega⟩, by rw [e]; exact h3⟩
  exact ⟨b1, by rw [e1]; exact b2, by rw [e1, addL, if_pos b2, e, addL, if_pos h]⟩
/-- P17. -/
theorem law_join {a b : List Pl} (h : joinB a b = true) : joinB b a = true ∧ joinL b a = joinL a b ∧ totalL (joinL a b) = totalL a + totalL b ∧ pilesB (joinL a b) = true := by
  obtain ⟨h1, h2, h3⟩ := (joinB_iff _ _).1 h
  have e := merge_comm h1 h2
  have hb : joinB b a = true := (joinB_iff _ _).2 ⟨h2, h1, by rw [← e]; exact h3⟩
  have e1 : joinL a b = mergeL a b := by rw [joinL, if_pos h]
  exact ⟨hb, by rw [e1, joinL, if_pos hb, e], by rw [e1, totalL, if_pos h3, totalL, if_pos h1, totalL, if_pos h2, sumL_merge], by rw [e1]; exact h3⟩
/-- P18. -/
theorem law_parts {a b : List Pl} (h : joinB a b = true) (k : Nat) : joinB a (b.take k) = true ∧ joinB (joinL a (b.take k)) (b.drop k) = true ∧ joinL (joinL a (b.take k)) (b.drop k) = joinL a b := by
  obtain ⟨h1, h2, h3⟩ := (joinB_iff _ _).1 h
  obtain ⟨a1, a2, _⟩ := pilesB_pos h1
  obtain ⟨_, p2, _⟩ := pilesB_pos h2
  have e : mergeL (mergeL a (b.take k)) (b.drop k) = mergeL a b := by rw [← mergeL_app, List.take_append_drop]
  have ht := piles_sub h2 (List.take_sublist k b)
  have hd := piles_sub h2 (List.drop_sublist k b)
  have h4 : pilesB (mergeL a (b.take k)) = true := valid_before (b := b.drop k) (by rw [e]; exact h3) (asc_merge a1 _) (pos_merge a2 (fun p hp => p2 p (List.mem_of_mem_take hp))) (fun p hp => p2 p (List.mem_of_mem_drop hp))
  have b1 : joinB a (b.take k) = true := (joinB_iff _ _).2 ⟨h1, ht, h4⟩
  have e1 : joinL a (b.take k) = mergeL a (b.take k) := by rw [joinL, if_pos b1]
  have b2 : joinB (mergeL a (b.take k)) (b.drop k) = true := (joinB_iff _ _).2 ⟨h4, hd, by rw [e]; exact h3⟩
  exact ⟨b1, by rw [e1]; exact b2, by rw [e1, joinL, if_pos b2, e, joinL, if_pos h]⟩
/-- P19: one pile more. -/
theorem law_each {a b : List Pl} (h : joinB a b = true) (k : Nat) (hk : k < b.length) : addB (mergeL a (b.take k)) (tAt b k) (mAt b k) = true ∧ addL (mergeL a (b.take k)) (tAt b k) (mAt b k) = mergeL a (b.take (k + 1)) := by
  obtain ⟨h1, h2, h3⟩ := (joinB_iff _ _).1 h
  obtain ⟨a1, a2, _⟩ := pilesB_pos h1
  obtain ⟨_, p2, _⟩ := pilesB_pos h2
  have valid : ∀ j, pilesB (mergeL a (b.take j)) = true := fun j => by
    have e : mergeL (mergeL a (b.take j)) (b.drop j) = mergeL a b := by rw [← mergeL_app, List.take_append_drop]
    exact valid_before (b := b.drop j) (by rw [e]; exact h3) (asc_merge a1 _) (pos_merge a2 (fun p hp => p2 p (List.mem_of_mem_take hp))) (fun p hp => p2 p (List.mem_of_mem_drop hp))
  have e1 : mergeL a (b.take (k + 1)) = putL (mergeL a (b.take k)) (tAt b k) (mAt b k) := by
    rw [List.take_succ_eq_append_getElem hk, mergeL_snoc]
    simp [tAt, mAt, hk]
  have hp : pileB (tAt b k) (mAt b k) = true := by
    have := ((pilesB_iff b).1 h2).1 _ (List.getElem_mem hk)
    simpa [tAt, mAt, hk] using this
  have b1 : addB (mergeL a (b.take k)) (tAt b k) (mAt b k) = true := (addB_iff _ _ _).2 ⟨valid k, hp, by rw [← e1]; exact valid (k + 1)⟩
  exact ⟨b1, by rw [addL, if_pos b1, e1]⟩
/-- P20. -/
theorem law_turn {ps : List Pl} {x y : Int} (h : canB ps x y = true) : canB (canL ps x y) x y = true ∧ canL (canL ps x y) x y = ps ∧ totalL (canL ps x y) = totalL ps ∧ (canL ps x y).length = ps.length := by
  obtain ⟨h1, hx, hy⟩ := (canB_iff _ _ _).1 h
  have hv := turn_valid hx hy h1
  have e1 : canL ps x y = turnPs x y ps := by rw [canL, if_pos h]
  have b2 : canB (turnPs x y ps) x y = true := (canB_iff _ _ _).2 ⟨hv, hx, hy⟩
  rw [e1]
  exact ⟨b2, by rw [canL, if_pos b2, turn_twice hx hy h1], by rw [totalL, if_pos hv, totalL, if_pos h1, turn_sum], turn_length hx hy h1⟩

end Go.Proofs.Ytafnmongglhlaaa

namespace Go.Proofs.Ytafnmongglhlaaa
open Go.RowKit

theorem int_info : (Try.prog.info? 3).map (fun i => (i.zero, i.size, i.bytes)) = some (some (.int .i64 0), 1, 8) := by kernel_rfl

/-- What a row that is owned says to a reader. -/
theorem IsInts.of_owns {w : World} {base g len cap : Nat} {zs : List Int} (h : w.ownsRow base 3 1 (.slice (some ⟨g, 0, none⟩) len cap) len (zs.map (Value.int .i64))) (hl : len ≤ 1048600) : IsInts w (some ⟨g, 0, none⟩) len cap zs := by
  have hlen : zs.length = len := by have := h.1; simpa using this
  have hcap : len ≤ cap := by
    rcases h.2 with ⟨e, _⟩ | ⟨_, c, _, e, _, _, hc, _⟩
    · cases e
    · injection e with _ _ e3; omega
  refine ⟨hlen, hcap, hl, fun hp => ⟨g, 0, rfl, ?_, fun j hj => ?_⟩⟩
  · exact (h.lt g rfl).2
  · rw [Nat.zero_add, h.cellAt j (by omega)]
    simp [show j < zs.length from by omega]

theorem owns_slice {w : World} {base : Nat} {e : TypeId} {size n : Nat} {v : Value} {xs : List Value} (h : w.ownsRow base e size v n xs) : ∃ a cap, v = .slice a n cap := by
  rcases h.2 with ⟨rfl, rfl⟩ | ⟨g, c, _, rfl, _⟩
  · exact ⟨none, 0, rfl⟩
  · exact ⟨_, c, rfl⟩
theorem IsInts.of_owned {w : World} {base len cap : Nat} {a : Option Addr} {zs : List Int} (h : w.ownsRow base 3 1 (.slice a len cap) len (zs.map (Value.int .i64))) (hl : len ≤ 1048600) : IsInts w a len cap zs := by
  rcases h.2 with ⟨e, e0⟩ | ⟨g, c, _, e, _⟩
  · subst e0
    have hz : zs = [] := by have := h.1; simpa using this
    subst hz
    exact ⟨rfl, Nat.zero_le _, hl, fun hp => by omega⟩
  · injection e with e1 e2 e3
    subst e1
    exact IsInts.of_owns h hl

/-- The first k of zs, then zeros: what toIntS has written when k rounds are over. -/
def fillTo (zs : List Int) (len k : Nat) : List Int := zs.take k ++ List.replicate (len - k) 0
theorem fillTo_step (zs : List Int) (len k : Nat) (hz : zs.length = len) (hk : k < len) : ((fillTo zs len k).map (Value.int .i64)).set k (.int .i64 (zs[k]?.getD 0)) = (fillTo zs len (k + 1)).map (Value.int .i64) := by
  have e : len - k = (len - (k + 1)) + 1 := by omega
  unfold fillTo
  rw [e, List.replicate_succ, List.take_succ_eq_append_getElem (by omega)]
  have hl : ((zs.take k).map (Value.int .i64)).length = k := by simp; omega
  simp only [List.map_append, List.map_cons, List.append_assoc, List.cons_append, List.nil_append]
  rw [List.set_append_right _ _ (by omega), hl, Nat.sub_self, List.set_cons_zero]
  simp [show k < zs.length from by omega]
theorem fillTo_all (zs : List Int) (len : Nat) (hz : zs.length = len) : fillTo zs len len = zs := by simp [fillTo, ← hz]

/-- Two lists of ints are equal. -/
def eqB (zs ys : List Int) : Bool := decide (zs = ys)
theorem eqB_self (zs : List Int) : eqB zs zs = true := by simp [eqB]
theorem take_step (zs ys : List Int) (k : Nat) (hz : k < zs.length) (hy : k < ys.length) (h : zs.take k = ys.take k) (he : zs[k]?.getD 0 = ys[k]?.getD 0) : zs.take (k + 1) = ys.take (k + 1) := by
  rw [List.take_succ_eq_append_getElem hz, List.take_succ_eq_append_getElem hy, h]
  simp [hz, hy] at he
  rw [he]
theorem take_part (zs ys : List Int) (k : Nat) (he : (zs[k]?.getD 0 == ys[k]?.getD 0) = false) : eqB zs ys = false := by
  simp only [eqB, decide_eq_false_iff_not]
  rintro rfl
  simp at he

end Go.Proofs.Ytafnmongglhlaaa

namespace Go.Proofs.Ytafnmongglhlaaa
open Go.RowKit

theorem owns_under {w w' : World} {base n size : Nat} {e : TypeId} {v : Value} {xs : List Value} (h : w.ownsRow base e size v n xs) (hb : Below w.heap.size w w') : w'.ownsRow base e size v n xs := by
  refine h.kept (row := none) ⟨hb.os, hb.tape, hb.output, hb.size, fun k hk _ => hb.block k hk⟩ ?_
  cases v.ownBlock <;> simp

/-- What is told of a list that is returned with a bool. -/
def Told (w : World) (pl : List Int) (ok : Bool) (e : Ending) (w' : World) : Prop := ∃ a cap, e = .returned (.tuple #[.slice a pl.length cap, .bool ok]) ∧ w'.ownsRow w.heap.size 3 1 (.slice a pl.length cap) pl.length (pl.map (Value.int .i64)) ∧ Below w.heap.size w w'

theorem zeros_made (n : Nat) : (madeCells (Value.int .i64 0).cells (n * 1)).toList = (List.replicate n (0 : Int)).map (Value.int .i64) := by
  rw [show (Value.int .i64 0).cells = #[.int .i64 0] from rfl, toList_madeCells_one]; simp
theorem map_set_int (l : List Int) (i : Nat) (z : Int) : (l.map (Value.int .i64)).set i (.int .i64 z) = (l.set i z).map (Value.int .i64) := by rw [List.map_set]

end Go.Proofs.Ytafnmongglhlaaa

namespace Go.Proofs.Ytafnmongglhlaaa
open Go.RowKit

/-- The cells of piles. -/
def cellsP : List Pl → List Value
  | [] => []
  | p :: ps => .string p.1 :: .int .i64 p.2 :: cellsP ps
theorem cellsP_length : ∀ ps : List Pl, (cellsP ps).length = ps.length * 2
  | [] => rfl
  | p :: ps => by rw [cellsP, List.length_cons, List.length_cons, cellsP_length ps, List.length_cons]; omega
theorem cellsP_app (a b : List Pl) : cellsP (a ++ b) = cellsP a ++ cellsP b := by
  induction a with
  | nil => rfl
  | cons p a ih => rw [List.cons_append, cellsP, cellsP, ih]; rfl
theorem cellsP_one (p : Pl) : cellsP [p] = [.string p.1, .int .i64 p.2] := rfl
theorem cellsP_text : ∀ (ps : List Pl) (j : Nat), j < ps.length → (cellsP ps)[j * 2]? = some (.string (tAt ps j))
  | [], j, h => by simp at h
  | p :: ps, 0, _ => rfl
  | p :: ps, j + 1, h => by
    rw [tAt_cons, cellsP, show (j + 1) * 2 = j * 2 + 1 + 1 by omega, List.getElem?_cons_succ, List.getElem?_cons_succ]
    exact cellsP_text ps j (by simpa using h)
theorem cellsP_many : ∀ (ps : List Pl) (j : Nat), j < ps.length → (cellsP ps)[j * 2 + 1]? = some (.int .i64 (mAt ps j))
  | [], j, h => by simp at h
  | p :: ps, 0, _ => rfl
  | p :: ps, j + 1, h => by
    rw [mAt_cons, cellsP, show (j + 1) * 2 + 1 = j * 2 + 1 + 1 + 1 by omega, List.getElem?_cons_succ, List.getElem?_cons_succ]
    exact cellsP_many ps j (by simpa using h)
theorem cellsP_take : ∀ (ps : List Pl) (k : Nat), (cellsP ps).take (k * 2) = cellsP (ps.take k)
  | [], k => by simp [cellsP]
  | p :: ps, 0 => by simp [cellsP]
  | p :: ps, k + 1 => by rw [cellsP, show (k + 1) * 2 = k * 2 + 1 + 1 by omega, List.take_succ_cons, List.take_succ_cons, cellsP_take ps k, List.take_succ_cons, cellsP]
theorem cellsP_drop : ∀ (ps : List Pl) (k : Nat), (cellsP ps).drop (k * 2) = cellsP (ps.drop k)
  | [], k => by simp [cellsP]
  | p :: ps, 0 => by simp
  | p :: ps, k + 1 => by rw [cellsP, show (k + 1) * 2 = k * 2 + 1 + 1 by omega, List.drop_succ_cons, List.drop_succ_cons, cellsP_drop ps k, List.drop_succ_cons]
theorem cellsP_set : ∀ (ps : List Pl) (k : Nat) (m : Int), k < ps.length → (cellsP ps).set (k * 2 + 1) (.int .i64 m) = cellsP (ps.set k (tAt ps k, m))
  | [], k, m, h => by simp at h
  | p :: ps, 0, m, _ => rfl
  | p :: ps, k + 1, m, h => by
    rw [tAt_cons, cellsP, show (k + 1) * 2 + 1 = k * 2 + 1 + 1 + 1 by omega, List.set_cons_succ, List.set_cons_succ, cellsP_set ps k m (by simpa using h), List.set_cons_succ, cellsP]

/-- The slice value reads as the piles ps. -/
def IsPiles (w : World) (a : Option Addr) (len cap : Nat) (ps : List Pl) : Prop :=
  ps.length = len ∧ len ≤ cap ∧ len ≤ 1048600 ∧ (0 < len → ∃ b off, a = some ⟨b, off, none⟩ ∧ b < w.heap.size ∧
    ∀ j, j < len → w.cell? ⟨b, off + j * 2, none⟩ = some (.string (tAt ps j)) ∧ w.cell? ⟨b, off + j * 2 + 1, none⟩ = some (.int .i64 (mAt ps j)))
theorem IsPiles.below {w w' : World} {a : Option Addr} {len cap : Nat} {ps : List Pl} (h : IsPiles w a len cap ps) (hb : Below w.heap.size w w') : IsPiles w' a len cap ps := by
  obtain ⟨h1, h2, h3, h4⟩ := h
  refine ⟨h1, h2, h3, fun hl => ?_⟩
  obtain ⟨b, off, e, hlt, hc⟩ := h4 hl
  exact ⟨b, off, e, Nat.lt_of_lt_of_le hlt hb.size, fun j hj => ⟨(hb.cell (p := ⟨b, off + j * 2, none⟩) hlt).trans (hc j hj).1, (hb.cell (p := ⟨b, off + j * 2 + 1, none⟩) hlt).trans (hc j hj).2⟩⟩
theorem IsPiles.dr {w w' : World} {a : Option Addr} {len cap : Nat} {ps : List Pl} (h : IsPiles w a len cap ps) (hd : Dr w w') : IsPiles w' a len cap ps := h.below (hd.below _)
theorem tAt_take {ps : List Pl} {k j : Nat} (h : j < k) : tAt (ps.take k) j = tAt ps j := by unfold tAt; rw [List.getElem?_take_of_lt h]
theorem mAt_take {ps : List Pl} {k j : Nat} (h : j < k) : mAt (ps.take k) j = mAt ps j := by unfold mAt; rw [List.getElem?_take_of_lt h]
theorem tAt_drop (ps : List Pl) (k j : Nat) : tAt (ps.drop k) j = tAt ps (k + j) := by unfold tAt; rw [List.getElem?_drop]
theorem mAt_drop (ps : List Pl) (k j : Nat) : mAt (ps.drop k) j = mAt ps (k + j) := by unfold mAt; rw [List.getElem?_drop]
theorem IsPiles.take {w : World} {a : Option Addr} {len cap : Nat} {ps : List Pl} (h : IsPiles w a len cap ps) {k : Nat} (hk : k ≤ len) : IsPiles w a k cap (ps.take k) := by
  obtain ⟨h1, h2, h3, h4⟩ := h
  refine ⟨by simp; omega, by omega, by omega, fun hl => ?_⟩
  obtain ⟨b, off, e, hlt, hc⟩ := h4 (by omega)
  exact ⟨b, off, e, hlt, fun j hj => by rw [tAt_take hj, mAt_take hj]; exact hc j (by omega)⟩
theorem IsPiles.drop {w : World} {b off len cap cap' : Nat} {ps : List Pl} (h : IsPiles w (some ⟨b, off, none⟩) len cap ps) {k : Nat} (hk : k ≤ len) (hc' : len - k ≤ cap') : IsPiles w (some ⟨b, off + k * 2, none⟩) (len - k) cap' (ps.drop k) := by
  obtain ⟨h1, h2, h3, h4⟩ := h
  refine ⟨by rw [List.length_drop, h1], hc', Nat.le_trans (Nat.sub_le _ _) h3, fun hl => ?_⟩
  obtain ⟨b', off', e, hlt, hc⟩ := h4 (by omega)
  injection e with e
  injection e with e1 e2 e3
  subst e1; subst e2
  refine ⟨b, off + k * 2, rfl, hlt, fun j hj => ?_⟩
  have := hc (k + j) (by omega)
  rw [tAt_drop, mAt_drop, show off + k * 2 + j * 2 = off + (k + j) * 2 by omega]
  exact this
theorem IsPiles.empty (w : World) (a : Option Addr) (cap : Nat) : IsPiles w a 0 cap [] := ⟨rfl, Nat.zero_le _, by omega, fun h => by omega⟩
/-- What a row of piles that is owned says to a reader. -/
theorem IsPiles.of_owned {w : World} {base len cap : Nat} {e : TypeId} {a : Option Addr} {ps : List Pl} (h : w.ownsRow base e 2 (.slice a len cap) len (cellsP ps)) (hl : len ≤ 1048600) : IsPiles w a len cap ps := by
  have hlen : ps.length = len := by have h1 := h.1; rw [cellsP_length] at h1; omega
  rcases h.2 with ⟨e1, e0⟩ | ⟨g, c, cur, e1, hb, hg, hcap, hmax, hcur, htake⟩
  · subst e0
    have hz : ps = [] := List.length_eq_zero_iff.1 hlen
    subst hz
    exact ⟨rfl, Nat.zero_le _, hl, fun hp => by omega⟩
  · injection e1 with e1 e2 e3
    subst e1
    subst e3
    refine ⟨hlen, hcap, hl, fun hp => ⟨g, 0, rfl, (h.lt g rfl).2, fun j hj => ⟨?_, ?_⟩⟩⟩
    · rw [Nat.zero_add, h.cellAt (j * 2) (by omega)]
      exact cellsP_text ps j (by omega)
    · rw [Nat.zero_add]
      rw [h.cellAt (j * 2 + 1) (by omega)]
      exact cellsP_many ps j (by omega)
/-- The cells of a slice of piles, read together. -/
theorem IsPiles.cells {w : World} {b off len cap : Nat} {ps : List Pl} (h : IsPiles w (some ⟨b, off, none⟩) len cap ps) (j : Nat) (hj : j < len * 2) : w.cell? ⟨b, off + j, none⟩ = (cellsP ps)[j]? := by
  obtain ⟨h1, h2, h3, h4⟩ := h
  obtain ⟨b', off', e, hlt, hc⟩ := h4 (by omega)
  injection e with e
  injection e with e1 e2 e3
  subst e1; subst e2
  have hq := hc (j / 2) (by omega)
  rcases Nat.mod_two_eq_zero_or_one j with g | g
  · rw [show j = j / 2 * 2 by omega]
    rw [cellsP_text ps (j / 2) (by omega)]
    exact hq.1
  · rw [show j = j / 2 * 2 + 1 by omega]
    rw [cellsP_many ps (j / 2) (by omega)]
    exact hq.2

end Go.Proofs.Ytafnmongglhlaaa

namespace Go.Proofs.Ytafnmongglhlaaa
open Go.RowKit Go.Shelf

attribute [local go_sem] Oper.semAt_some

/-- What has come when k rounds are over. -/
def upto {α : Type} (f : Nat → α) (k : Nat) : List α := (List.range k).map f
theorem upto_succ {α : Type} (f : Nat → α) (k : Nat) : upto f (k + 1) = upto f k ++ [f k] := by simp [upto, List.range_succ]
theorem upto_length {α : Type} (f : Nat → α) (k : Nat) : (upto f k).length = k := by simp [upto]
theorem upto_all (zs : List Int) : upto (fun j => zs[j]?.getD 0) zs.length = zs := by
  apply List.ext_getElem
  · simp [upto]
  · intro i h1 h2
    simp [upto, h2]
theorem upto_take (zs : List Int) {k : Nat} (hk : k ≤ zs.length) : upto (fun j => zs[j]?.getD 0) k = zs.take k := by
  apply List.ext_getElem
  · simp [upto, hk]
  · intro i h1 h2
    have : i < zs.length := by simp [upto] at h1; omega
    simp [upto, this]

set_option maxRecDepth 100000 in
set_option maxHeartbeats 2000000 in
/-- slices.Values's closure, at a slice with elements. -/
theorem values1_in (F : Fence) (n : Nat) (hF : F.fn 133) (hro : F.round = none) (hn : 1 ≤ n) (l Bs n₀ b off len cap : Nat) {α : Type} (f : α → Int) (x : Nat → α) (hreach : len ≤ 1048600) (hb : b < n₀) (J Jx : List α → World → Prop)
    (hY : ∀ pre x W, J pre W → pre.length < len → YieldAt F (n - 1) Try.prog l #[.int .i64 (f x)] W fun e W' =>
      (e = .returned (.bool true) ∧ J (pre ++ [x]) W' ∧ Below n₀ W W') ∨ (e = .returned (.bool false) ∧ Jx (pre ++ [x]) W'))
    (W : World) (hBs : W.cell? ⟨Bs, 0, none⟩ = some (.slice (some ⟨b, off, none⟩) len cap)) (hc : ∀ j, j < len → W.cell? ⟨b, off + j, none⟩ = some (.int .i64 (f (x j)))) (h0 : J [] W) :
    CallsIn F n Try.prog 133 #[.func (.yield l) #[] #[], .pointer (some ⟨Bs, 0, none⟩)] W fun e W' => (∃ v, e = .returned v) ∧
      ((∃ ys, ys = upto x len ∧ J ys W') ∨ (∃ pre, (∃ k, k ≤ len ∧ pre = upto x k) ∧ Jx pre W')) := by
  refine callsIn_of_wp Try.func133 rfl hF ?_ hro
  simp only [Try.ntmps133, List.size_toArray, List.length_cons, List.length_nil, Nat.reduceAdd, Nat.reduceSub, Array.replicate_succ, Array.replicate_zero, List.push_toArray, List.append_toArray, List.nil_append, List.cons_append]
  gi_wp2
  gi_loopw [7] (fun i wr => ∃ k : Nat, k ≤ len ∧ i = .int .i64 k ∧ J (upto x k) wr ∧ Below n₀ W wr)
    (fun i _ => len - (intOf i).toNat)
  case atStart => exact ⟨0, Nat.zero_le _, rfl, h0, Below.refl _ _⟩
  case round =>
    obtain ⟨k, hk, rfl, hJs, hnx⟩ := hrel
    have hcx : k < len → wr.cell? ⟨b, off + k, none⟩ = some (.int .i64 (f (x k))) := fun h => (hnx.cell (p := ⟨b, off + k, none⟩) hb).trans (hc k h)
    by_cases hlt : k < len
    · obtain ⟨fn, tmps, assign, body, hy, hR⟩ := hY _ (x k) wr hJs (by rw [upto_length]; exact hlt)
      have hcx' := hcx hlt
      gi_wp2
      refine hR.mono ?_
      rintro e W3 (⟨rfl, hJ3, hk3⟩ | ⟨rfl, hJx3⟩)
      · gi_wp2
        go_roundw
        case rel => exact ⟨k + 1, by omega, by simp, by rw [upto_succ]; exact hJ3, hnx.trans hk3⟩
        case measure => simp [intOf]; omega
      · gi_wp2
        refine bodyPost_ret (results_none rfl _ _ _) rfl ?_
        exact ⟨⟨_, rfl⟩, .inr ⟨_, ⟨k + 1, by omega, (upto_succ _ _).symm⟩, hJx3⟩⟩
    · obtain rfl : k = len := by omega
      gi_wp2
      go_end0
      exact ⟨⟨_, rfl⟩, .inl ⟨_, rfl, hJs⟩⟩

set_option maxRecDepth 100000 in
set_option maxHeartbeats 1000000 in
/-- .. at a slice without elements: no round. -/
theorem values1_nil_in (F : Fence) (n : Nat) (hF : F.fn 133) (hro : F.round = none) (l Bs cap : Nat) (a : Option Addr) {α : Type} (J : List α → World → Prop) (W : World) (hBs : W.cell? ⟨Bs, 0, none⟩ = some (.slice a 0 cap)) (h0 : J [] W) :
    CallsIn F n Try.prog 133 #[.func (.yield l) #[] #[], .pointer (some ⟨Bs, 0, none⟩)] W fun e W' => (∃ v, e = .returned v) ∧ J [] W' := by
  refine callsIn_of_wp Try.func133 rfl hF ?_ hro
  simp only [Try.ntmps133, List.size_toArray, List.length_cons, List.length_nil, Nat.reduceAdd, Nat.reduceSub, Array.replicate_succ, Array.replicate_zero, List.push_toArray, List.append_toArray, List.nil_append, List.cons_append]
  gi_wp2
  gi_loopw [7] (fun i wr => i = .int .i64 0 ∧ J [] wr) (fun _ _ => 0)
  case atStart => exact ⟨rfl, h0⟩
  case round =>
    obtain ⟨rfl, hJs⟩ := hrel
    gi_wp2
    go_end0
    exact ⟨⟨_, rfl⟩, hJs⟩

set_option maxHeartbeats 1000000 in
/-- **slices.Values(s)**: the slice value is boxed; the function value captures the box. -/
theorem values_in (F : Fence) (n : Nat) (hF : F.fn 122) (hro : F.round = none) (a : Option Addr) (len cap : Nat) (w : World) :
    CallsIn F n Try.prog 122 #[.slice a len cap] w fun e w' => e = .returned (.func (.func 133) #[] #[.pointer (some ⟨w.heap.size, 0, none⟩)]) ∧ w' = w.alloc (.cells #[.slice a len cap] 24) := by
  refine callsIn_of_wp Try.func122 rfl hF ?_ hro
  simp only [Try.ntmps122, List.size_toArray, List.length_cons, List.length_nil, Nat.reduceAdd, Nat.reduceSub, Array.replicate_succ, Array.replicate_zero, List.push_toArray, List.append_toArray, List.nil_append, List.cons_append]
  gi_wp2
  go_ret
  exact ⟨rfl, rfl⟩

set_option maxHeartbeats 1000000 in
/-- **ballotCandidates(b)**: just slices.Values(b). -/
theorem candidates_in (F : Fence) (n : Nat) (hn : 1 ≤ n) (hF : F.fn 95) (hV : F.fn 122) (hro : F.round = none) (a : Option Addr) (len cap : Nat) (w : World) :
    CallsIn F n Try.prog 95 #[.slice a len cap] w fun e w' => e = .returned (.func (.func 133) #[] #[.pointer (some ⟨w.heap.size, 0, none⟩)]) ∧ w' = w.alloc (.cells #[.slice a len cap] 24) := by
  refine callsIn_of_wp Try.func95 rfl hF ?_ hro
  simp only [Try.ntmps95, List.size_toArray, List.length_cons, List.length_nil, Nat.reduceAdd, Nat.reduceSub, Array.replicate_succ, Array.replicate_zero, List.push_toArray, List.append_toArray, List.nil_append, List.cons_append]
  gi_wp2_with (gi_at_call 122; refine (values_in F (n - 1) hV hro _ _ _ _).mono ?_; rintro e w' ⟨rfl, rfl⟩)
  go_ret
  exact ⟨rfl, rfl⟩

/-- **slices.Values(s) yields the ints of s in order**, whatever the body does that keeps what lay below; the body may know of each int what its type says. -/
theorem values_stops_g {α : Type} (f : α → Int) (xs : List α) (F : Fence) (n : Nat) (hF : F.fn 133) (hro : F.round = none) (hn : 1 ≤ n) (Bs : Nat) (a : Option Addr) (len cap : Nat) (zs : List Int) (has : xs.map f = zs) (w0 w : World) (hBs : Bs < w.heap.size) (hb0 : Below w0.heap.size w0 w)
    (hc : w.cell? ⟨Bs, 0, none⟩ = some (.slice a len cap)) (hI : IsInts w0 a len cap zs) :
    SeqStopsK F n Try.prog 133 #[.pointer (some ⟨Bs, 0, none⟩)] (fun x : α => #[Value.int .i64 (f x)]) (Below w0.heap.size) (fun ys => ys = xs) (fun pre => pre <+: xs) len w := fun l J Jx W hW _ _ hY h0 => by
  have hc' := (hW.cell (p := ⟨Bs, 0, none⟩) hBs).trans hc
  have hB := hb0.trans (hW.mono hb0.size)
  obtain ⟨h1, h2, h3, h4⟩ := hI
  have hal : xs.length = len := by rw [← h1, ← has, List.length_map]
  by_cases hl : 0 < len
  · obtain ⟨b, off, rfl, hb, hcs⟩ := h4 hl
    obtain ⟨a0, at0, ha0⟩ : ∃ a0 t, xs = a0 :: t := by
      cases xs with
      | nil => simp at hal; omega
      | cons a0 t => exact ⟨a0, t, rfl⟩
    have hx : ∀ j, j < len → zs[j]?.getD 0 = f (xs[j]?.getD a0) := fun j hj => by
      rw [← has]; simp [show j < xs.length from by omega]
    have hall : upto (fun j => xs[j]?.getD a0) len = xs := by
      apply List.ext_getElem
      · simp [upto, hal]
      · intro i h1 h2
        simp [upto, h2]
    have htake : ∀ k, k ≤ len → upto (fun j => xs[j]?.getD a0) k = xs.take k := fun k hk => by
      apply List.ext_getElem
      · simp [upto]; omega
      · intro i h1 h2
        have : i < xs.length := by simp [upto] at h1; omega
        simp [upto, this]
    refine (values1_in F n hF hro hn l Bs w0.heap.size b off len cap f (fun j => xs[j]?.getD a0) h3 hb J Jx hY W hc' (fun j hj => by rw [← hx j hj]; exact (hB.cell (p := ⟨b, off + j, none⟩) hb).trans (hcs j hj)) h0).mono ?_
    rintro e W' ⟨he, ⟨ys, rfl, hj⟩ | ⟨pre, ⟨k, hk, rfl⟩, hj⟩⟩
    · exact ⟨he, .inl ⟨_, hall, hj⟩⟩
    · exact ⟨he, .inr ⟨_, by rw [htake k hk]; exact List.take_prefix _ _, hj⟩⟩
  · obtain rfl : len = 0 := by omega
    obtain rfl : xs = [] := List.length_eq_zero_iff.1 hal
    exact (values1_nil_in F n hF hro l Bs cap a J W hc' h0).mono fun e W' ⟨he, hj⟩ => ⟨he, .inl ⟨_, rfl, hj⟩⟩

theorem values_stops (F : Fence) (n : Nat) (hF : F.fn 133) (hro : F.round = none) (hn : 1 ≤ n) (Bs : Nat) (a : Option Addr) (len cap : Nat) (zs : List Int) (w0 w : World) (hBs : Bs < w.heap.size) (hb0 : Below w0.heap.size w0 w)
    (hc : w.cell? ⟨Bs, 0, none⟩ = some (.slice a len cap)) (hI : IsInts w0 a len cap zs) :
    SeqStopsK F n Try.prog 133 #[.pointer (some ⟨Bs, 0, none⟩)] (fun x : Int => #[Value.int .i64 x]) (Below w0.heap.size) (fun ys => ys = zs) (fun pre => pre <+: zs) len w :=
  values_stops_g (fun z : Int => z) zs F n hF hro hn Bs a len cap zs (by simp) w0 w hBs hb0 hc hI

end Go.Proofs.Ytafnmongglhlaaa
