/-
  Piles in a map from texts to numbers, and what is collected of it and sorted: as lists. No function of the seat.
  spec.PilesMerge, spec.l3Total, spec.PilesTotal: for lists of piles with texts of at most 1048600 bytes; what PilesMerge returns is memory of its own.
  l91Piles: the reader draws piles: some list of at most 13 piles, with texts of at most 1048600 bytes and numbers from 0 to 100, in memory of its own.
  What the drawn statements of piles get: DrawPilesValid, DrawPilesTotal, DrawPilesMerge, DrawPilesTurn, DrawPilesAdd.
  What the drawn statements of piles get: DrawPilesAdd.
  samePiles: whether two lists of piles are equal.
  DERIVED: THE SHELF's CONTRACTS AT THIS DUMP, IN PLAIN WORDS (tools/lay-plain.mjs out of 'YtojfpnjnbpeniabShelfHome.lean', which tools/lay-shelf.mjs wrote): THE SAME DECLARATIONS UNDER THE SAME NAMES: 'import', 'namespace', 'open', 'def', 'theorem' AND NOTHING ELSE: no command of the shelf's: FOR A HAND-IN. Each laying: the table of numbers ('.._ren') and one theorem, a field a fact of the dump's own or the kernel's comparison; each contract: ONE APPLICATION.
  impl's Pile.compare: the order of texts, byte by byte; impl.PilesValid: for every slice of piles with texts of at most 1048600 bytes. Neither writes into memory that was there.
  A slice of piles of the call's own, sorted by the library: what it holds then. No function of the seat but Pile.compare.
  impl.sortedPiles: the piles of a map from texts to numbers, in the order of their texts, in memory of its own.
  impl.PilesValid: for every slice of piles with texts of at most 1048600 bytes; it writes into no memory that was there.
  spec.l3Total, spec.PilesTotal, impl.PilesTotal: for lists of piles with texts of at most 1048600 bytes.
  impl.PilesMerge and impl.PilesAdd: for lists of piles with texts of at most 1048600 bytes; what they return is memory of their own.
-/
import Derived.Test.YtojfpnjnbpeniabGrp2
import Derived.Maps.Ext
import Derived.Shelf.Small.Strs
import Derived.Sort.Statements
import Derived.Lib.Bytealg
import Derived.Test.YtojfpnjnbpeniabGrp4
import Derived.StillTailTactics
import Derived.Maps.RangeWalk
import Derived.Test.YtojfpnjnbpeniabDrawB
import Derived.Deep.RegionLaw
import Derived.Deep.AppendLies
import Derived.Laws.StructEq
import Derived.Shelf.SlSortCmp.WholeK
import Derived.Test.YtojfpnjnbpeniabProg
import Derived.Sort.Grow
import Derived.Maps.OwnSet
import Derived.Sort.KeysCollected
import Derived.Maps.OwnOps
namespace Go.Proofs.Ytojfpnjnbpeniab
open Go.RowKit Go.Maps Go.Sort

/-- A text as a key. -/
def kT (t : ByteArray) : Lit := .string t.data.toList
theorem kT_inj {a b : ByteArray} (h : kT a = kT b) : a = b := by
  unfold kT at h
  injection h with h
  exact ByteArray.ext (Array.ext' h)
theorem kT_key (t : ByteArray) : WideAt.IsKeyLit (kT t) := trivial

abbrev iL (m : Int) : DataW Unit := .lit (.int .i64 m)
/-- The map reads as the piles: each text has the number of all its ballots. -/
def MapIs (D : DataW Unit) (ps : List Pl) : Prop :=
  (∀ u, Maps.has D (kT u) = true ↔ ∃ p ∈ ps, p.1 = u) ∧ ∀ u, D.atKey (kT u) (iL 0) = iL (tot ps u)
theorem mapIs_start : MapIs (.map []) [] := ⟨fun u => by simp [Maps.has], fun u => rfl⟩
theorem tot_one (t : ByteArray) (m : Int) (u : ByteArray) : tot [(t, m)] u = if t = u then m else 0 := by simp [tot]
theorem mapIs_step {D : DataW Unit} {ps : List Pl} (h : MapIs D ps) (hD : IsMap D) (t : ByteArray) (m : Int) : MapIs (D.put (kT t) (iL (tot ps t + m))) (ps ++ [(t, m)]) := by
  refine ⟨fun u => ?_, fun u => ?_⟩
  · by_cases e : u = t
    · subst e
      rw [has_put_same hD (kT_key _)]
      simp
    · rw [has_put_other (fun h' => e (kT_inj h')), h.1 u]
      constructor
      · rintro ⟨p, hp, rfl⟩; exact ⟨p, by simp [hp], rfl⟩
      · rintro ⟨p, hp, rfl⟩
        rcases List.mem_append.1 hp with hp | hp
        · exact ⟨p, hp, rfl⟩
        · simp at hp; subst hp; exact absurd rfl e
  · rw [tot_app, tot_one]
    by_cases e : u = t
    · subst e
      rw [atKey_put_same hD (kT_key _)]
      simp
    · rw [atKey_put_other (fun h' => e (kT_inj h')), h.2 u, if_neg (fun h' => e h'.symm)]
      simp
theorem tot_absent {ps : List Pl} {u : ByteArray} (h : ¬ ∃ p ∈ ps, p.1 = u) : tot ps u = 0 := tot_none fun p hp e => h ⟨p, hp, e⟩
/-- A text that is new. -/
theorem mapIs_new {D : DataW Unit} {ps : List Pl} (h : MapIs D ps) (hD : IsMap D) {t : ByteArray} (ht : ¬ ∃ p ∈ ps, p.1 = t) (m : Int) : MapIs (D.put (kT t) (iL m)) (ps ++ [(t, m)]) := by
  have := mapIs_step h hD t m
  rwa [tot_absent ht, Int.zero_add] at this
theorem tot_bound {ps : List Pl} (h : ∀ p ∈ ps, 0 ≤ p.2 ∧ p.2 ≤ 99) (u : ByteArray) : 0 ≤ tot ps u ∧ tot ps u ≤ 99 * (ps.length : Int) := by
  induction ps with
  | nil => simp [tot]
  | cons p ps ih =>
    have i := ih (fun q hq => h q (by simp [hq]))
    have j := h p (by simp)
    have e : tot (p :: ps) u = tot [p] u + tot ps u := tot_app [p] ps u
    rw [e, tot_one, List.length_cons]
    split <;> omega
theorem tot_pos {ps : List Pl} (h : ∀ p ∈ ps, 1 ≤ p.2) {u : ByteArray} (hu : ∃ p ∈ ps, p.1 = u) : 1 ≤ tot ps u := by
  induction ps with
  | nil => obtain ⟨p, hp, _⟩ := hu; simp at hp
  | cons p ps ih =>
    have e : tot (p :: ps) u = tot [p] u + tot ps u := tot_app [p] ps u
    have j := h p (by simp)
    have hn : 0 ≤ tot ps u := by
      by_cases hh : ∃ p ∈ ps, p.1 = u
      · have := ih (fun q hq => h q (by simp [hq])) hh; omega
      · rw [tot_absent hh]; omega
    rw [e, tot_one]
    by_cases e2 : p.1 = u
    · rw [if_pos e2]; omega
    · rw [if_neg e2]
      have : ∃ q ∈ ps, q.1 = u := by
        obtain ⟨q, hq, rfl⟩ := hu
        rcases List.mem_cons.1 hq with rfl | hq
        · exact absurd rfl e2
        · exact ⟨q, hq, rfl⟩
      have := ih (fun q hq => h q (by simp [hq])) this
      omega

/-- What was collected of a map, when 'left' is still to come. -/
def Coll (D : DataW Unit) (left : Lit → Bool) (qs : List Pl) : Prop :=
  (qs.map (·.1)).Nodup ∧ (∀ u, (∃ q ∈ qs, q.1 = u) ↔ (Maps.has D (kT u) = true ∧ left (kT u) = false)) ∧ ∀ q ∈ qs, D.atKey (kT q.1) (iL 0) = iL q.2
theorem coll_start (D : DataW Unit) : Coll D (Maps.has D) [] := ⟨List.nodup_nil, fun u => by cases Maps.has D (kT u) <;> simp, fun q hq => by cases hq⟩
theorem coll_step {D : DataW Unit} {left : Lit → Bool} {qs : List Pl} (h : Coll D left qs) {x : ByteArray} {c : Int} (hl : left (kT x) = true) (hat : ∀ zd, D.atKey (kT x) zd = iL c) :
    Coll D (fun z => left z && !z.sameKey (kT x)) (qs ++ [(x, c)]) := by
  have hx : ¬ ∃ q ∈ qs, q.1 = x := fun hh => by have := ((h.2.1 x).1 hh).2; rw [hl] at this; cases this
  refine ⟨?_, fun u => ?_, fun q hq => ?_⟩
  · rw [List.map_append, List.nodup_append]
    refine ⟨h.1, by simp, fun a ha b hb e => ?_⟩
    obtain ⟨q, hq, rfl⟩ := List.mem_map.1 ha
    simp at hb
    exact hx ⟨q, hq, e.trans hb⟩
  · show (∃ q ∈ qs ++ [(x, c)], q.1 = u) ↔ (Maps.has D (kT u) = true ∧ (left (kT u) && !(kT u).sameKey (kT x)) = false)
    by_cases e : u = x
    · subst e
      rw [has_true_of_atKey hat, WideAt.sameKey_self (kT_key _)]
      simp
    · rw [sameKey_ne (fun h' => e (kT_inj h'))]
      simp only [Bool.not_false, Bool.and_true]
      rw [← h.2.1 u]
      constructor
      · rintro ⟨q, hq, rfl⟩
        rcases List.mem_append.1 hq with hq | hq
        · exact ⟨q, hq, rfl⟩
        · simp at hq; subst hq; exact absurd rfl e
      · rintro ⟨q, hq, rfl⟩; exact ⟨q, by simp [hq], rfl⟩
  · rcases List.mem_append.1 hq with hq | hq
    · exact h.2.2 q hq
    · simp at hq; subst hq; exact hat _

/-! ### The order of strings.Compare -/
theorem cmp_less : ∀ a b : List UInt8, (Lib.compareBytes a b < 0) ↔ Op.bytesLess a b = true
  | [], [] => by simp [Lib.compareBytes, Op.bytesLess]
  | [], b :: bs => by simp [Lib.compareBytes, Op.bytesLess]
  | a :: xs, [] => by simp [Lib.compareBytes, Op.bytesLess]
  | a :: xs, b :: ys => by
    have ih := cmp_less xs ys
    by_cases h : a < b
    · simp [Lib.compareBytes, Op.bytesLess, h]
    · by_cases h' : b < a
      · have : ¬ a = b := fun e => by subst e; exact h h'
        simp [Lib.compareBytes, Op.bytesLess, h, h', this]
      · have e : a = b := UInt8.le_antisymm (UInt8.not_lt.1 h') (UInt8.not_lt.1 h)
        subst e
        simp [Lib.compareBytes, Op.bytesLess, h, ih]
def cmpP (p q : Pl) : Int := Lib.compareBytes p.1.data.toList q.1.data.toList
def ltP (p q : Pl) : Bool := tl p.1 q.1
theorem lt_cmpP (p q : Pl) : decide (cmpP p q < 0) = ltP p q := by
  unfold cmpP ltP tl
  rw [ByteArray.toList_eq, ByteArray.toList_eq, Bool.eq_iff_iff]
  simp only [decide_eq_true_iff]
  exact cmp_less _ _
theorem cmp_neg (p q : Pl) : decide (0 ≤ cmpP p q) = !tl p.1 q.1 := by
  have e : tl p.1 q.1 = decide (cmpP p q < 0) := (lt_cmpP p q).symm
  rw [e]
  by_cases h : cmpP p q < 0
  · have h' : ¬ 0 ≤ cmpP p q := by omega
    simp [h, h']
  · have h' : 0 ≤ cmpP p q := by omega
    simp [h, h']
theorem swo_cmpP : SWO ltP where
  irrefl x := by exact tl_irrefl _
  trans x y z h1 h2 := tl_trans h1 h2
  ntrans x y z h1 h2 := by
    unfold ltP at *
    cases h : tl x.1 z.1 with
    | false => rfl
    | true =>
      rcases tl_tri x.1 y.1 with g | g | g
      · rw [g] at h1; cases h1
      · rw [g, h2] at h; cases h
      · rw [tl_trans g h] at h2; cases h2

/-- What was collected, sorted, ascends, and has the numbers of the piles. -/
theorem coll_sorted {D : DataW Unit} {left : Lit → Bool} {ps qs : List Pl} {d' : Array Pl} (hM : MapIs D ps) (hC : Coll D left qs) (hl : ∀ kl, left kl = false) (hp : d'.toList.Perm qs) (hs : SortedIn (ltP) 0 d'.size d') :
    Asc d'.toList ∧ (∀ u, tot d'.toList u = tot ps u) ∧ ∀ q ∈ d'.toList, ∃ p ∈ ps, p.1 = q.1 := by
  have hn : (d'.toList.map (·.1)).Nodup := (hp.map _).nodup_iff.2 hC.1
  have hA : Asc d'.toList := by
    unfold Asc
    rw [List.pairwise_iff_getElem]
    intro i j hi hj hij
    have h := hs i j (Nat.zero_le _) hij (by simpa using hj)
    unfold ltP at h
    rw [getElem!_pos d' i (by simpa using hi), getElem!_pos d' j (by simpa using hj)] at h
    simp only [Array.getElem_toList]
    rcases tl_tri d'[i].1 d'[j].1 with g | g | g
    · exact g
    · have := (List.pairwise_iff_getElem.1 hn) i j (by simpa using hi) (by simpa using hj) hij
      simp at this
      exact absurd g this
    · rw [g] at h; cases h
  have hk : ∀ q ∈ d'.toList, ∃ p ∈ ps, p.1 = q.1 := fun q hq => (hM.1 q.1).1 ((hC.2.1 q.1).1 ⟨q, hp.mem_iff.1 hq, rfl⟩).1
  refine ⟨hA, fun u => ?_, hk⟩
  by_cases hu : ∃ q ∈ d'.toList, q.1 = u
  · obtain ⟨q, hq, rfl⟩ := hu
    rw [tot_mem hA q hq]
    have h1 := hC.2.2 q (hp.mem_iff.1 hq)
    rw [hM.2 q.1] at h1
    injection h1 with h1
    injection h1 with _ h1
    exact h1.symm
  · rw [tot_absent hu, tot_absent]
    rintro hh
    have := (hC.2.1 u).2 ⟨(hM.1 u).2 hh, hl _⟩
    obtain ⟨q, hq, e⟩ := this
    exact hu ⟨q, hp.mem_iff.2 hq, e⟩
theorem tot_zero : ∀ u, tot [] u = 0 := fun _ => rfl
/-- .. so they are the piles, merged. -/
theorem coll_merge {D : DataW Unit} {left : Lit → Bool} {ps qs : List Pl} {d' : Array Pl} (hM : MapIs D ps) (hC : Coll D left qs) (hl : ∀ kl, left kl = false) (hp : d'.toList.Perm qs) (hs : SortedIn (ltP) 0 d'.size d')
    (h1 : ∀ p ∈ ps, 1 ≤ p.2) : d'.toList = mergeL [] ps := by
  obtain ⟨hA, hT, hK⟩ := coll_sorted hM hC hl hp hs
  refine piles_ext hA (asc_merge asc_nil _) (fun q hq => ?_) (pos_merge (fun p hp => by cases hp) h1) (fun u => ?_)
  · rw [← tot_mem hA q hq, hT]; exact tot_pos h1 (hK q hq)
  · rw [hT, tot_merge, tot_zero, Int.zero_add]
theorem merge_both {a b : List Pl} (ha : pilesB a = true) : mergeL [] (a ++ b) = mergeL a b := by
  have hp := pilesB_pos ha
  rw [mergeL_app]
  have e : mergeL [] a = a := piles_ext (asc_merge asc_nil _) hp.1 (pos_merge (fun p hp => by cases hp) hp.2.1) hp.2.1 (fun u => by rw [tot_merge, tot_zero, Int.zero_add])
  rw [e]

end Go.Proofs.Ytojfpnjnbpeniab

namespace Go.Proofs.Ytojfpnjnbpeniab
open Go.RowKit

theorem mAt_merge {xs ys : List Pl} (ha : pilesB xs = true) (hb : ∀ p ∈ ys, 1 ≤ p.2 ∧ p.2 ≤ 99) (hl : ys.length ≤ 100) (i : Nat) : 0 ≤ mAt (mergeL xs ys) i ∧ mAt (mergeL xs ys) i ≤ 1000000 := by
  have hp := pilesB_pos ha
  unfold mAt
  cases e : (mergeL xs ys)[i]? with
  | none => simp
  | some q =>
    have hq := List.mem_of_getElem? e
    have h1 := tot_mem (asc_merge hp.1 ys) q hq
    have h2 := tot_merge xs ys q.1
    have h3 := tot_bound (ps := xs) (fun p hm => ⟨by have := hp.2.1 p hm; omega, hp.2.2.1 p hm⟩) q.1
    have h4 := tot_bound (ps := ys) (fun p hm => ⟨by have := hb p hm; omega, (hb p hm).2⟩) q.1
    have h5 := hp.2.2.2.2
    simp only [Option.getD_some]
    omega
theorem Small.merge {xs ys : List Pl} (ha : Small xs) (hb : Small ys) : Small (mergeL xs ys) := Small.of fun q hq => by
  have mem : ∀ {ps : List Pl}, Small ps → ∀ p ∈ ps, p.1.size ≤ 1048600 := fun {ps} h p hp => by
    obtain ⟨i, hi, rfl⟩ := List.mem_iff_getElem.1 hp
    have := h i
    unfold tAt at this
    simpa [hi] using this
  rcases merge_texts q hq with ⟨p, hp, e⟩ | ⟨p, hp, e⟩
  · rw [← e]; exact mem ha p hp
  · rw [← e]; exact mem hb p hp
theorem Small.take {ps : List Pl} (h : Small ps) (k : Nat) : Small (ps.take k) := Small.of fun q hq => by
  obtain ⟨i, hi, e⟩ := List.mem_iff_getElem.1 (List.mem_of_mem_take hq)
  have := h i
  unfold tAt at this
  rw [← e]
  simpa [hi] using this
theorem take_one {ps : List Pl} {k : Nat} (h : k < ps.length) : ps.take (k + 1) = ps.take k ++ [(tAt ps k, mAt ps k)] := by
  have e : (tAt ps k, mAt ps k) = ps[k] := by simp [tAt, mAt, h]
  rw [e, List.take_succ_eq_append_getElem h]
theorem merge_step {xs ps : List Pl} {k : Nat} (h : k < ps.length) : putL (mergeL xs (ps.take k)) (tAt ps k) (mAt ps k) = mergeL xs (ps.take (k + 1)) := by rw [take_one h, mergeL_snoc]
theorem mem_valid {ps : List Pl} (h : pilesB ps = true) : ∀ p ∈ ps, 1 ≤ p.2 ∧ p.2 ≤ 99 := fun p hp => ⟨(pilesB_pos h).2.1 p hp, (pilesB_pos h).2.2.1 p hp⟩
theorem IsPiles.piles {w : World} {a : Option Addr} {len cap : Nat} {ps : List Pl} (h : IsPiles w a len cap ps) {k : Nat} (hk : k < len) : ∃ b off, a = some ⟨b, off, none⟩ ∧ b < w.heap.size ∧ w.cell? ⟨b, off + k * 2, none⟩ = some (.string (tAt ps k)) ∧ w.cell? ⟨b, off + k * 2 + 1, none⟩ = some (.int .i64 (mAt ps k)) := by
  obtain ⟨b, off, e, hb, hc⟩ := h.2.2.2 (by omega)
  exact ⟨b, off, e, hb, hc k hk⟩

theorem not_nil {w : World} {base n size : Nat} {e : TypeId} {v : Value} {xs : List Value} (h : w.ownsRow base e size v n xs) (hn : v ≠ .slice none 0 0) : ∃ g c, v = .slice (some ⟨g, 0, none⟩) n c := by
  rcases h.2 with ⟨e0, _⟩ | ⟨g, c, _, e, _⟩
  · exact absurd e0 hn
  · exact ⟨g, c, e⟩

end Go.Proofs.Ytojfpnjnbpeniab

namespace Go.Proofs.Ytojfpnjnbpeniab
open Go.RowKit

theorem Step.behind {R : Nat} {w w' w2 : World} (h : Step R w w') (hb : Below w'.heap.size w' w2) : Step R w w2 :=
  h.grown (row := none) ⟨hb.os, hb.tape, hb.output, hb.size, fun k hk _ => hb.block k hk⟩ (fun k e => by cases e)
theorem small_valid {ps : List Pl} (h : pilesB ps = true) : Small ps := Small.of fun p hp => by
  have hv := (pilesB_pos h).2.2.2.1 p hp
  have := vB_short hv
  rw [nums_length] at this
  omega
theorem cellsP_setT : ∀ (ps : List Pl) (k : Nat) (s : ByteArray), k < ps.length → (cellsP ps).set (k * 2) (.string s) = cellsP (ps.set k (s, mAt ps k))
  | [], k, s, h => by simp at h
  | p :: ps, 0, s, _ => rfl
  | p :: ps, k + 1, s, h => by
    rw [mAt_cons, cellsP, show (k + 1) * 2 = k * 2 + 1 + 1 by omega, List.set_cons_succ, List.set_cons_succ, cellsP_setT ps k s (by simpa using h), List.set_cons_succ, cellsP]
/-- The numbers are from 0 to 100. -/
def Few (ps : List Pl) : Prop := ∀ i, 0 ≤ mAt ps i ∧ mAt ps i ≤ 100
theorem Few.of {ps : List Pl} (h : ∀ p ∈ ps, 0 ≤ p.2 ∧ p.2 ≤ 100) : Few ps := fun i => by
  unfold mAt
  cases e : ps[i]? with
  | none => simp
  | some p => exact h p (List.mem_of_getElem? e)
theorem Few.mem {ps : List Pl} (h : Few ps) : ∀ p ∈ ps, 0 ≤ p.2 ∧ p.2 ≤ 100 := fun p hp => by
  obtain ⟨i, hi, rfl⟩ := List.mem_iff_getElem.1 hp
  have := h i
  unfold mAt at this
  simpa [hi] using this
theorem Small.mem {ps : List Pl} (h : Small ps) : ∀ p ∈ ps, p.1.size ≤ 1048600 := fun p hp => by
  obtain ⟨i, hi, rfl⟩ := List.mem_iff_getElem.1 hp
  have := h i
  unfold tAt at this
  simpa [hi] using this
theorem few_valid {ps : List Pl} (h : pilesB ps = true) : Few ps := fun i => by have := mAt_valid h i; omega
theorem Few.set {ps : List Pl} (h : Few ps) (k : Nat) {t : ByteArray} {m : Int} (hm : 0 ≤ m ∧ m ≤ 100) : Few (ps.set k (t, m)) := Few.of fun p hp => by
  rcases List.mem_or_eq_of_mem_set hp with hp | rfl
  · exact h.mem p hp
  · exact hm
theorem Small.set {ps : List Pl} (h : Small ps) (k : Nat) {t : ByteArray} {m : Int} (ht : t.size ≤ 1048600) : Small (ps.set k (t, m)) := Small.of fun p hp => by
  rcases List.mem_or_eq_of_mem_set hp with hp | rfl
  · exact h.mem p hp
  · exact ht
theorem Few.snoc {ps : List Pl} (h : Few ps) {t : ByteArray} {m : Int} (hm : 0 ≤ m ∧ m ≤ 100) : Few (ps ++ [(t, m)]) := Few.of fun p hp => by
  rcases List.mem_append.1 hp with hp | hp
  · exact h.mem p hp
  · simp at hp; subst hp; exact hm
theorem Small.snoc {ps : List Pl} (h : Small ps) {t : ByteArray} {m : Int} (ht : t.size ≤ 1048600) : Small (ps ++ [(t, m)]) := Small.of fun p hp => by
  rcases List.mem_append.1 hp with hp | hp
  · exact h.mem p hp
  · simp at hp; subst hp; exact ht

theorem txtB_short' (zs : List Int) : (txtB zs).size ≤ zs.length := by
  unfold txtB
  split
  · rw [txtOf_size]; exact Nat.le_refl _
  · exact Nat.zero_le _
/-- Piles of the reader's. -/
def DrawnP (R p : Nat) (w : World) (e : Ending) (w' : World) : Prop := ∃ (ps : List Pl) (g cap p' : Nat), e = .returned (.slice (some ⟨g, 0, none⟩) ps.length cap) ∧
  w'.ownsRow w.heap.size 39 2 (.slice (some ⟨g, 0, none⟩) ps.length cap) ps.length (cellsP ps) ∧ Small ps ∧ Few ps ∧ ps.length ≤ 13 ∧ Rd w' R p' ∧ p' ≤ p + 3000 ∧ Step R w w'
theorem addL_valid {ps : List Pl} {t : ByteArray} {m : Int} (h : addB ps t m = true) : pilesB (addL ps t m) = true := by rw [addL, h]; exact ((addB_iff ps t m).1 h).2.2

end Go.Proofs.Ytojfpnjnbpeniab

namespace Go.Proofs.Ytojfpnjnbpeniab
open Go.RowKit

/-- A list of piles of the call's own. -/
def HasP (w0 w : World) (ps : List Pl) (g cap : Nat) : Prop := w.ownsRow w0.heap.size 39 2 (.slice (some ⟨g, 0, none⟩) ps.length cap) ps.length (cellsP ps) ∧ Small ps ∧ Few ps ∧ ps.length ≤ 13
theorem HasP.below {w0 w w' : World} {ps : List Pl} {g cap : Nat} (h : HasP w0 w ps g cap) (hb : Below w.heap.size w w') : HasP w0 w' ps g cap := ⟨owns_below h.1 hb, h.2⟩
theorem HasP.piles {w0 w : World} {ps : List Pl} {g cap : Nat} (h : HasP w0 w ps g cap) : IsPiles w (some ⟨g, 0, none⟩) ps.length cap ps := IsPiles.of_owned h.1 (by have := h.2.2.2; omega)
theorem HasP.lt {w0 w : World} {ps : List Pl} {g cap : Nat} (h : HasP w0 w ps g cap) : g < w.heap.size := (h.1.lt g rfl).2

end Go.Proofs.Ytojfpnjnbpeniab

namespace Go.Proofs.Ytojfpnjnbpeniab
open Go.RowKit

/-- One of the numbers 0, 99, 100, 95. -/
def p4 (d : Nat) : Int := if d = 0 then 0 else if d = 1 then 99 else if d = 2 then 100 else 95
theorem p4_range (d : Nat) : 0 ≤ p4 d ∧ p4 d ≤ 100 := by unfold p4; split <;> (try split) <;> (try split) <;> omega
theorem p4_cell (w : World) (T : TypeId) (d : Nat) (hd : d < 4) : (w.alloc (.cells #[.int .i64 0, .int .i64 99, .int .i64 100, .int .i64 95] T)).cell? ⟨w.heap.size, d, none⟩ = some (.int .i64 (p4 d)) := by
  rw [World.cell?_alloc_new]
  have : d = 0 ∨ d = 1 ∨ d = 2 ∨ d = 3 := by omega
  rcases this with rfl | rfl | rfl | rfl <;> rfl

end Go.Proofs.Ytojfpnjnbpeniab

namespace Go.Proofs.Ytojfpnjnbpeniab
open Go.RowKit

def eqP (xs ys : List Pl) : Bool := decide (xs = ys)
theorem eqP_self (xs : List Pl) : eqP xs xs = true := by simp [eqP]
theorem takeP_step {xs ys : List Pl} {k : Nat} (hx : k < xs.length) (hy : k < ys.length) (h : xs.take k = ys.take k) (ht : tAt xs k = tAt ys k) (hm : mAt xs k = mAt ys k) : xs.take (k + 1) = ys.take (k + 1) := by
  rw [take_one hx, take_one hy, h, ht, hm]
theorem takeP_part {xs ys : List Pl} {k : Nat} (h : ¬ (tAt xs k = tAt ys k ∧ mAt xs k = mAt ys k)) : eqP xs ys = false := by
  simp only [eqP, decide_eq_false_iff_not]
  rintro rfl
  exact h ⟨rfl, rfl⟩

theorem pile_under : Try.prog.underlying 39 = some (.struct (Try.prog.fieldsOf 39)) := by kernel_rfl
theorem pile_stood : Try.prog.stoodInHeld 39 = false := by kernel_rfl
theorem pile_guard : Try.prog.eqGuardType Try.prog.depth 39 = false := by kernel_rfl
theorem text_ne {a b : ByteArray} (h : ¬ a = b) : ¬ a.toList = b.toList := fun e => h (list_text e)

theorem run_neqP (t1 t2 : ByteArray) (m1 m2 : Int) (v : Bool) (hv : (!(decide (t1 = t2) && decide (m1 = m2))) = v) (w : World) : (binOp .neq 39 (.agg #[.string t1, .int .i64 m1]) (.agg #[.string t2, .int .i64 m2])).run Try.prog w = .ok (.bool v) w := by
  subst hv
  rw [run_neq_struct, run_equalIn_agg _ _ _ _ _ pile_under pile_stood]
  simp [go_sem, Program.fieldsOf, Try.underlying39, Try.underlying9, Try.underlying3, Op.eqFields]
  by_cases h : t1 = t2
  · subst h
    by_cases h2 : m1 = m2 <;> simp [h2]
  · simp [text_ne h, h]
theorem run_guardP (x y : Operand) (xs ys : Array Value) (w : World) : (eqGuard .neq 39 x y (.agg xs) (.agg ys)).run Try.prog w = .ok () w := run_eqGuard_agg w .neq _ x y xs ys pile_guard

end Go.Proofs.Ytojfpnjnbpeniab

namespace Go.Proofs
open Go.Shelf
def Try.cmpStr_ren : Go.Shelf.Ren := ⟨fun | 106 => 41 | 213 => 43 | 265 => 45 | n => n, fun | 9 => 9 | 3 => 3 | n => n, fun | n => n⟩
theorem Try.cmpStr : Go.Proofs.Lays.n106 Try.prog Try.cmpStr_ren := {
  mixed := by kernel_rfl
  f106 := Try.func41.trans (congrArg some (by kernel_rfl))
  f213 := Try.func43.trans (congrArg some (by kernel_rfl))
  f265 := Try.func45.trans (congrArg some (by kernel_rfl))
  t3 := Try.underlying3
  a3 := Try.isAgg3
  z3 := Try.sizeOf3
  v3 := Try.zeroValue3
  t9 := Try.underlying9
  a9 := Try.isAgg9
  z9 := Try.sizeOf9
  v9 := Try.zeroValue9 }
end Go.Proofs

namespace Go.Proofs.Ytojfpnjnbpeniab
open Go.RowKit Go.Shelf Go.Sort

theorem below_grow {B : Nat} {w w' : World} (h : Below B w w') (hB : B ≤ w.heap.size) (os : Array Obj) : Below B w (grow w' os) := ⟨h.os, h.tape, h.output, by have := h.size; simp; omega, fun k hk => (heap_grow_old _ _ (Nat.lt_of_lt_of_le hk (Nat.le_trans hB h.size))).trans (h.block k hk)⟩

set_option maxHeartbeats 1000000 in
/-- **impl's Pile.compare**. -/
theorem compare_any (p q : Pl) (w : World) :
    Calls Try.prog 37 #[.agg #[.string p.1, .int .i64 p.2], .agg #[.string q.1, .int .i64 q.2]] w fun e w' => e = .returned (.int .i64 (cmpP p q)) ∧ ∃ n os, w' = grow (w.drewN n) os := by
  obtain ⟨r, hr⟩ : ∃ r, Lib.compareBytes p.1.data.toList q.1.data.toList = r := ⟨_, rfl⟩
  have hcon := fun W => Any.strings_Compare Try.cmpStr p.1 q.1 W
  change ∀ W, Calls Try.prog 41 _ _ _ at hcon
  rw [hr] at hcon
  have HR : Hid (cmpP p q = r) := hr
  clear hr
  go_enter Try.func37, Try.ntmps37
  go_wp2_with (go_at_call 41; refine (hcon _).mono ?_; rintro e w' ⟨rfl, rfl⟩)
  go_ret
  exact ⟨ret_int HR.out.symm, 0, _, by rw [alloc_eq_grow, alloc_eq_grow, grow_grow]; rfl⟩
theorem compare_below (p q : Pl) (w : World) :
    Calls Try.prog 37 #[.agg #[.string p.1, .int .i64 p.2], .agg #[.string q.1, .int .i64 q.2]] w fun e w' => e = .returned (.int .i64 (cmpP p q)) ∧ Below w.heap.size w w' :=
  (compare_any p q w).mono fun _ _ ⟨he, n, os, hw⟩ => ⟨he, by subst hw; exact below_grow (below_drewN _ _ _) (Nat.le_refl _) _⟩
theorem compare_as (t : ByteArray) (m : Int) (t' : ByteArray) (m' : Int) (r : Int) (w : World) (h : cmpP (t, m) (t', m') = r) :
    Calls Try.prog 37 #[.agg #[.string t, .int .i64 m], .agg #[.string t', .int .i64 m']] w fun e w' => e = .returned (.int .i64 r) ∧ Below w.heap.size w w' := by
  subst h; exact compare_below (t, m) (t', m') w
theorem enters_compare : ∀ args w, (callFunc 37 args).run Try.prog w = .ok (.enter 37 args) w := enters_of Try.func37 (by kernel_rfl) rfl

end Go.Proofs.Ytojfpnjnbpeniab

namespace Go.Proofs.Ytojfpnjnbpeniab
open Go.RowKit Go.Shelf Go.Sort

def encP (p : Pl) : List Value := [.string p.1, .int .i64 p.2]
theorem flat_get (ps : List Pl) : ∀ t, t < ps.length * 2 → (flatK encP 2 ps.toArray)[t]! = (cellsP ps)[t]?.getD undef := by
  intro t ht
  rw [get_flatK encP 2 ps.toArray t (by simpa using ht)]
  have hi : t / 2 < ps.length := by omega
  have e : ps.toArray[t / 2]! = (tAt ps (t / 2), mAt ps (t / 2)) := by
    rw [getElem!_pos ps.toArray (t / 2) (by simpa using hi)]
    simp [tAt, mAt, hi]
  rw [e]
  rcases Nat.mod_two_eq_zero_or_one t with h | h
  · have e2 : (cellsP ps)[t]? = some (.string (tAt ps (t / 2))) := by
      have := cellsP_text ps (t / 2) hi
      rwa [show t / 2 * 2 = t by omega] at this
    rw [h, e2]; rfl
  · have e2 : (cellsP ps)[t]? = some (.int .i64 (mAt ps (t / 2))) := by
      have := cellsP_many ps (t / 2) hi
      rwa [show t / 2 * 2 + 1 = t by omega] at this
    rw [h, e2]; rfl
theorem flat_cells (ps : List Pl) : flatK encP 2 ps.toArray = (cellsP ps).toArray := by
  refine ext_get! (by simp [cellsP_length]) fun t ht => ?_
  have ht' : t < ps.length * 2 := by simpa using ht
  rw [flat_get ps t ht']
  have hl : t < (cellsP ps).length := by rw [cellsP_length]; exact ht'
  rw [getElem!_pos (cellsP ps).toArray t (by simpa using hl)]
  simp [hl]
theorem holdsP_of_block {w : World} {g : Nat} {cur : Array Value} {e : TypeId} {ps : List Pl} (hb : w.heap[g]? = some (.cells cur e (0, 0))) (ht : cur.toList.take (ps.length * 2) = cellsP ps) : HoldsK encP 2 w g 0 ps.toArray := by
  unfold HoldsK
  rw [flat_cells]
  intro j hj
  have hj' : j < (cellsP ps).length := by simpa using hj
  have hj2 : j < ps.length * 2 := by rw [cellsP_length] at hj'; exact hj'
  refine ⟨?_, by simp [World.frozen?, hb]⟩
  have h1 : (cur.toList.take (ps.length * 2))[j]? = (cellsP ps)[j]? := by rw [ht]
  rw [List.getElem?_take_of_lt hj2] at h1
  simp only [World.cell?, hb, Nat.zero_add]
  simp only [Option.isSome_none, Bool.false_eq_true, if_false]
  rw [← Array.getElem?_toList, h1]
  simp [hj']
theorem heap_sortedP {w : World} {g n : Nat} {os : Array Obj} {cur : Array Value} {e : TypeId} {fr : Nat × Nat} (d : Array Pl) (hb : w.heap[g]? = some (.cells cur e fr)) :
    (sortWorldK encP 2 w g 0 n d os).heap[g]? = some (.cells (putCells id 0 (flatK encP 2 d) cur) e fr) := by
  have hg : g < w.heap.size := (Array.getElem?_eq_some_iff.1 hb).1
  unfold sortWorldK putRowK
  rw [heap_grow_old _ _ (by simpa using hg)]
  simp [putRow, mapBlock, Sort.ahead, Array.getElem?_modify, hb, onCells]
theorem grownBy_sortedP {w : World} {g n : Nat} {os : Array Obj} (d : Array Pl) : w.grownBy (sortWorldK encP 2 w g 0 n d os) (some g) := by
  refine ⟨rfl, rfl, rfl, by simp [sortWorldK, putRowK], fun k hk hne => ?_⟩
  unfold sortWorldK putRowK
  rw [heap_grow_old _ _ (by simpa using hk)]
  have : g ≠ k := fun e => hne (by rw [e])
  simp [putRow, mapBlock, Sort.ahead, Array.getElem?_modify, this]
theorem take_putP (cur : Array Value) (ts : List Pl) (h : ts.length * 2 ≤ cur.size) : (putCells id 0 (flatK encP 2 ts.toArray) cur).toList.take (ts.length * 2) = cellsP ts := by
  rw [flat_cells]
  apply List.ext_getElem?
  intro j
  by_cases hj : j < ts.length * 2
  · have hl : j < (cellsP ts).length := by rw [cellsP_length]; exact hj
    rw [List.getElem?_take_of_lt hj, Array.getElem?_toList]
    simp [putCells, hl, show j < cur.size by omega]
  · rw [List.getElem?_take_eq_none (by omega), List.getElem?_eq_none (by rw [cellsP_length]; omega)]
/-- BEHIND THE SORT the same slice owns the sorted piles. -/
theorem owns_sortedP {w : World} {base g cap n : Nat} {e : TypeId} {os : Array Obj} {ps ts : List Pl} {len : Nat} (h : w.ownsRow base e 2 (.slice (some ⟨g, 0, none⟩) len cap) len (cellsP ps)) (hl : ts.length = len) :
    (sortWorldK encP 2 w g 0 n ts.toArray os).ownsRow base e 2 (.slice (some ⟨g, 0, none⟩) len cap) len (cellsP ts) := by
  rcases h.2 with ⟨e0, _⟩ | ⟨g', cap', cur, e1, hbase, hb, h1, h2, h3, h4⟩
  · cases e0
  · cases e1
    refine ⟨by rw [cellsP_length, hl], .inr ⟨g, cap, _, rfl, hbase, heap_sortedP _ hb, h1, h2, by simp [putCells, h3], ?_⟩⟩
    rw [← hl]
    exact take_putP cur ts (by omega)
theorem holdsP_of_owns {w : World} {base g cap : Nat} {e : TypeId} {ps : List Pl} {len : Nat} (h : w.ownsRow base e 2 (.slice (some ⟨g, 0, none⟩) len cap) len (cellsP ps)) (hl : ps.length = len) : HoldsK encP 2 w g 0 ps.toArray := by
  rcases h.2 with ⟨e0, _⟩ | ⟨g', cap', cur, e1, hbase, hb, h1, h2, h3, h4⟩
  · cases e0
  · cases e1
    exact holdsP_of_block hb (by rw [hl]; exact h4)
theorem cmpLaysP (blk off size : Nat) (w : World) : CmpLays Try.prog 37 #[] encP 2 cmpP blk off size w :=
  fun _ _ _ _ x y => compare_any x y _
theorem ltOf_P : Go.Proofs.ltOf cmpP = ltP := by
  funext x y
  unfold Go.Proofs.ltOf
  exact lt_cmpP x y

end Go.Proofs.Ytojfpnjnbpeniab

namespace Go.Proofs.Ytojfpnjnbpeniab
open Go.RowKit Go.Maps Go.Sort

theorem lawS : Keyed Try.prog 9 := string_keyed Try.underlying9
theorem size_le {w : World} {P : Program} {k : TypeId} {R : Value → Option (DataW Unit × List MemPlace)} {b n : Nat} {D : DataW Unit} (h : w.ownsMap P k R b n D) : Maps.size D ≤ n := by
  obtain ⟨es, clock, _, _, hn, rfl⟩ := h
  rw [Maps.size_eq, length_sorted]
  simpa using hn
theorem enc_text (x : List UInt8) : encStr x = .string ⟨x.toArray⟩ := rfl
theorem kT_list (x : List UInt8) : kT ⟨x.toArray⟩ = .string x := by simp [kT]
theorem rowP_ne_iter {P : Program} {k : TypeId} {R : Value → Option (DataW Unit × List MemPlace)} {w : World} {b r n : Nat} {D : DataW Unit} {left : Lit → Bool} {cnt base : Nat} {e : TypeId} {size : Nat} {v : Value} {m : Nat} {xs : List Value}
    (h : w.ownsRow base e size v m xs) (hr : w.ranges P k R b r n D left cnt) : some r ≠ v.ownBlock := by
  obtain ⟨_, _, _, _, _, _, _, _, _, hit, _⟩ := hr
  rcases h.2 with ⟨rfl, _⟩ | ⟨g, cap, cur, rfl, _, hb, _⟩
  · simp [Value.ownBlock]
  · intro e1
    have : r = g := by simpa [Value.ownBlock] using e1
    subst this
    rw [hit] at hb
    cases hb
theorem rowP_ne_low {w : World} {base : Nat} {e : TypeId} {size : Nat} {v : Value} {n : Nat} {xs : List Value} (h : w.ownsRow base e size v n xs) {b : Nat} (hb : b < base) : some b ≠ v.ownBlock := fun e1 => by
  have := (h.lt b e1.symm).1
  omega

theorem not_nil' {w : World} {base n size : Nat} {e : TypeId} {v : Value} {xs : List Value} (h : w.ownsRow base e size v n xs) (hn : v ≠ .slice none 0 0) : ∃ g c, v = .slice (some ⟨g, 0, none⟩) n c := by
  rcases h.2 with ⟨e0, _⟩ | ⟨g, c, _, e, _⟩
  · exact absurd e0 hn
  · exact ⟨g, c, e⟩

end Go.Proofs.Ytojfpnjnbpeniab

namespace Go.Proofs.Ytojfpnjnbpeniab
open Go.RowKit

set_option maxRecDepth 100000 in
set_option maxHeartbeats 2000000 in
/-- **impl.PilesValid** answers as the model does. -/
theorem implPiles_any (a : Option Addr) (len cap : Nat) (ps : List Pl) (w : World) (h : IsPiles w a len cap ps) (hs : Small ps) :
    Calls Try.prog 28 #[.slice a len cap] w fun e w' => e = .returned (.bool (pilesB ps)) ∧ Below w.heap.size w w' := by
  obtain ⟨h1, h2, h3, h4⟩ := h
  have H1 := Lib.hid h1; clear h1
  have H4 := Lib.hid h4; clear h4
  have HS := Lib.hid hs; clear hs
  obtain ⟨g, hg⟩ : ∃ g, w.heap.size = g := ⟨_, rfl⟩
  by_cases hlong : 12 < len
  · have hgt : decide ((12 : Int) < (len : Int)) = true := decide_eq_true (by omega)
    have HE : Hid (pilesB ps = false) := by
      unfold Hid pilesB
      rw [H1.out, decide_eq_false (by omega)]; simp
    go_enter Try.func28, Try.ntmps28
    go_wp2
    go_ret
    exact ⟨ret_bool HE.out.symm, Below.refl _ _⟩
  · have hgt : decide ((12 : Int) < (len : Int)) = false := decide_eq_false (by omega)
    have hl12 : (len : Int) ≤ 12 := by omega
    go_enter Try.func28, Try.ntmps28
    go_wp2
    go_loopw [10] (fun i wr => ∃ k : Nat, k ≤ len ∧ i = .int .i64 k ∧ Hid (ascTo ps k = true) ∧ Below g w wr) (fun i _ => len - (intOf i).toNat)
    case atStart => exact ⟨0, Nat.zero_le _, rfl, rfl, Below.refl _ _⟩
    case round =>
      obtain ⟨k, hk, rfl, hA, hB⟩ := hrel
      by_cases hlt : k < len
      · obtain ⟨b, off, rfl, hb, hcell⟩ := H4.out (by omega)
        obtain ⟨t, ht⟩ : ∃ t, tAt ps k = t := ⟨_, rfl⟩
        obtain ⟨m, hm⟩ : ∃ m, mAt ps k = m := ⟨_, rfl⟩
        obtain ⟨v, hv⟩ : ∃ v, pileB t m = v := ⟨_, rfl⟩
        have hst : t.size ≤ 1048600 := by rw [← ht]; exact HS.out k
        have hbg : b < g := by rw [← hg]; exact hb
        have c0 : wr.cell? ⟨b, off + k * 2, none⟩ = some (.string t) := by rw [hB.cell (p := ⟨b, off + k * 2, none⟩) hbg, (hcell k hlt).1, ht]
        have c1 : wr.cell? ⟨b, off + k * 2 + 1, none⟩ = some (.int .i64 m) := by rw [hB.cell (p := ⟨b, off + k * 2 + 1, none⟩) hbg, (hcell k hlt).2, hm]
        have hbr : b < wr.heap.size := Nat.lt_of_lt_of_le (hg.symm ▸ hbg) hB.size
        obtain ⟨W, hW⟩ : ∃ W, wr.alloc (.cells #[.string t, .int .i64 m] 39) = W := ⟨_, rfl⟩
        have hBW : Below g w W := by rw [← hW]; exact hB.alloc (hg ▸ hB.size) _
        have hbW : b < W.heap.size := by rw [← hW]; simp; omega
        have d0 : W.cell? ⟨b, off + k * 2, none⟩ = some (.string t) := by rw [← hW, World.cell?_alloc_past _ _ _ hbr]; exact c0
        have d1 : W.cell? ⟨b, off + k * 2 + 1, none⟩ = some (.int .i64 m) := by rw [← hW, World.cell?_alloc_past _ _ _ hbr]; exact c1
        have e0 : W.cell? ⟨wr.heap.size, 0, none⟩ = some (.string t) := by rw [← hW]; exact World.cell?_alloc_new wr _ _ 0
        have e1 : W.cell? ⟨wr.heap.size, 1, none⟩ = some (.int .i64 m) := by rw [← hW]; exact World.cell?_alloc_new wr _ _ 1
        have hwW : wr.heap.size < W.heap.size := by rw [← hW]; simp
        have u0 : ∀ u : Beh W, u.w.cell? ⟨b, off + k * 2, none⟩ = some (.string t) := Beh.cell d0 hbW
        have u1 : ∀ u : Beh W, u.w.cell? ⟨b, off + k * 2 + 1, none⟩ = some (.int .i64 m) := Beh.cell d1 hbW
        have v0 : ∀ u : Beh W, u.w.cell? ⟨wr.heap.size, 0, none⟩ = some (.string t) := Beh.cell e0 hwW
        have v1 : ∀ u : Beh W, u.w.cell? ⟨wr.heap.size, 1, none⟩ = some (.int .i64 m) := Beh.cell e1 hwW
        have hgW : g ≤ W.heap.size := by have := hB.size; rw [hg] at this; omega
        rcases Nat.eq_zero_or_pos k with hk0 | hk0
        · have hgt0 : decide ((0 : Int) < (k : Int)) = false := decide_eq_false (by omega)
          have hgt1 : decide (0 < k) = false := decide_eq_false (by omega)
          have HN := Lib.hid (asc_first hA.out (by rw [ht, hm, hv]) hk0)
          have HV := Lib.hid hv
          have HCELL := Lib.hid hcell
          clear ht hm hv hcell hk0
          cases v
          · go_wp2_with fail
            refine wp_region_below (by kernel_rfl) (by kernel_rfl) ?_
            repeat (go_big_quiet_step ((go_at_call 36; exact Calls.beh (pileValid_as t m false _ hst HV.out))))
            refine wpQuiet_nil ?_
            rintro _ ⟨⟨w1, hb1⟩, rfl⟩
            have hB1 := hBW.trans (hb1.mono hgW)
            go_wp2
            go_ret
            exact ⟨ret_bool (pilesB_no HN.out hlt H1.out).symm, hg.symm ▸ hB1⟩
          · go_wp2_with fail
            refine wp_region_below (by kernel_rfl) (by kernel_rfl) ?_
            repeat (go_big_quiet_step ((go_at_call 36; exact Calls.beh (pileValid_as t m true _ hst HV.out))))
            refine wpQuiet_nil ?_
            rintro _ ⟨⟨w1, hb1⟩, rfl⟩
            have hB1 := hBW.trans (hb1.mono hgW)
            go_wp2
            go_roundw
            case rel => exact ⟨k + 1, by omega, by go_num, HN, hB1⟩
            case measure => simp [intOf]; omega
        · obtain ⟨j, rfl⟩ : ∃ j, k = j + 1 := ⟨k - 1, by omega⟩
          obtain ⟨t', ht'⟩ : ∃ t', tAt ps j = t' := ⟨_, rfl⟩
          obtain ⟨m', hm'⟩ : ∃ m', mAt ps j = m' := ⟨_, rfl⟩
          obtain ⟨u, hu⟩ : ∃ u, tl t' t = u := ⟨_, rfl⟩
          obtain ⟨r, hr⟩ : ∃ r, cmpP (t', m') (t, m) = r := ⟨_, rfl⟩
          have c2 : W.cell? ⟨b, off + j * 2, none⟩ = some (.string t') := by rw [hBW.cell (p := ⟨b, off + j * 2, none⟩) hbg, (hcell j (by omega)).1, ht']
          have c3 : W.cell? ⟨b, off + j * 2 + 1, none⟩ = some (.int .i64 m') := by rw [hBW.cell (p := ⟨b, off + j * 2 + 1, none⟩) hbg, (hcell j (by omega)).2, hm']
          have u2 : ∀ u : Beh W, u.w.cell? ⟨b, off + j * 2, none⟩ = some (.string t') := Beh.cell c2 hbW
          have u3 : ∀ u : Beh W, u.w.cell? ⟨b, off + j * 2 + 1, none⟩ = some (.int .i64 m') := Beh.cell c3 hbW
          have hgt0 : decide ((0 : Int) < (j : Int) + 1) = true := decide_eq_true (by omega)
          have hgt1 : decide (0 < j + 1) = true := decide_eq_true (by omega)
          have hji : (j : Int) < (len : Int) := by omega
          have HN := Lib.hid (asc_next hA.out (by rw [ht, hm, hv]) (by rw [ht', ht, hu]))
          have HR := Lib.hid hr
          have HGE : Hid (decide ((0 : Int) ≤ r) = !u) := by rw [Hid, ← hr, ← hu]; exact cmp_neg (t', m') (t, m)
          have HV := Lib.hid hv
          have HCELL := Lib.hid hcell
          clear ht ht' hm hm' hv hu hr hcell
          cases v
          · go_wp2_with fail
            refine wp_region_below (by kernel_rfl) (by kernel_rfl) ?_
            repeat (go_big_quiet_step ((go_at_call 36; exact Calls.beh (pileValid_as t m false _ hst HV.out))))
            refine wpQuiet_nil ?_
            rintro _ ⟨⟨w1, hb1⟩, rfl⟩
            have hB1 := hBW.trans (hb1.mono hgW)
            go_wp2
            go_ret
            exact ⟨ret_bool (pilesB_no HN.out hlt H1.out).symm, hg.symm ▸ hB1⟩
          · go_wp2_with fail
            refine wp_region_below (by kernel_rfl) (by kernel_rfl) ?_
            repeat (go_big_quiet_step ((first | (go_at_call 36; exact Calls.beh (pileValid_as t m true _ hst HV.out)) | (go_at_call 37; exact Calls.beh (compare_as t' m' t m r _ HR.out)))))
            refine wpQuiet_nil ?_
            rintro _ ⟨⟨w1, hb1⟩, rfl⟩
            have hB1 := hBW.trans (hb1.mono hgW)
            cases u
            · have hge : decide ((0 : Int) ≤ r) = true := HGE.out
              simp only [hge]
              go_wp2
              go_ret
              exact ⟨ret_bool (pilesB_no HN.out hlt H1.out).symm, hg.symm ▸ hB1⟩
            · have hge : decide ((0 : Int) ≤ r) = false := HGE.out
              simp only [hge]
              go_wp2
              go_roundw
              case rel => exact ⟨j + 1 + 1, by omega, by go_num, HN, hB1⟩
              case measure => simp [intOf]; omega
      · obtain rfl : k = len := by omega
        have hyes := pilesB_yes hA.out H1.out
        rw [decide_eq_true hl12] at hyes
        have HY := Lib.hid hyes; clear hyes
        go_wp2
        go_ret
        exact ⟨ret_bool HY.out.symm, hg.symm ▸ hB⟩

end Go.Proofs.Ytojfpnjnbpeniab

namespace Go.Proofs.Ytojfpnjnbpeniab
open Go.RowKit

theorem sumL_app (a b : List Pl) : sumL (a ++ b) = sumL a + sumL b := by
  induction a with
  | nil => simp [sumL]
  | cons p a ih => rw [List.cons_append, sumL_cons, sumL_cons, ih]; omega
theorem sum_take {ps : List Pl} {k : Nat} (h : k < ps.length) : sumL (ps.take (k + 1)) = sumL (ps.take k) + mAt ps k := by
  rw [take_one h, sumL_app]; simp [sumL]
theorem sum_bound {ps : List Pl} (h : ∀ i, 0 ≤ mAt ps i ∧ mAt ps i ≤ 1000000) (k : Nat) (hk : k ≤ ps.length) : 0 ≤ sumL (ps.take k) ∧ sumL (ps.take k) ≤ 1000000 * (k : Int) := by
  induction k with
  | zero => simp [sumL]
  | succ k ih =>
    have := ih (by omega)
    rw [sum_take (by omega)]
    have := h k
    omega
theorem implPiles_as (a : Option Addr) (len cap : Nat) (ps : List Pl) (v : Bool) (w : World) (h : IsPiles w a len cap ps) (hs : Small ps) (hv : pilesB ps = v) :
    Calls Try.prog 28 #[.slice a len cap] w fun e w' => e = .returned (.bool v) ∧ Below w.heap.size w w' := by subst hv; exact implPiles_any a len cap ps w h hs

end Go.Proofs.Ytojfpnjnbpeniab

namespace Go.Proofs.Ytojfpnjnbpeniab
open Go.RowKit Go.Maps

theorem zeroE (w : World) : (zeroValue 3).run Try.prog w = .ok (.int .i64 0) w := by kernel_rfl
theorem merged_eq {ts xs ys : List Pl} (h : Asc ts ∧ (∀ u, tot ts u = tot (xs ++ ys) u) ∧ ∀ q ∈ ts, ∃ p ∈ xs ++ ys, p.1 = q.1) (hx : pilesB xs = true) (hy : pilesB ys = true) : ts = mergeL xs ys := by
  have px := pilesB_pos hx
  have py := pilesB_pos hy
  refine piles_ext h.1 (asc_merge px.1 _) (fun q hq => ?_) (pos_merge px.2.1 py.2.1) (fun u => by rw [h.2.1, tot_app, tot_merge])
  rw [← tot_mem h.1 q hq, h.2.1]
  refine tot_pos (fun p hp => ?_) (h.2.2 q hq)
  rcases List.mem_append.1 hp with hp | hp
  · exact px.2.1 p hp
  · exact py.2.1 p hp
/-- The piles before list number r, of two. -/
def before2 (xs : List Pl) (r : Nat) (ys : List Pl) : List Pl := if r = 0 then [] else if r = 1 then xs else xs ++ ys
theorem tot_small {xs ys : List Pl} {r j : Nat} {zs : List Pl} (hx : pilesB xs = true) (hy : pilesB ys = true) (hz : zs = xs ∨ zs = ys) (u : ByteArray) : 0 ≤ tot (before2 xs r ys ++ zs.take j) u ∧ tot (before2 xs r ys ++ zs.take j) u ≤ 1000000 := by
  have px := pilesB_pos hx
  have py := pilesB_pos hy
  have hin : ∀ p ∈ before2 xs r ys, p ∈ xs ∨ p ∈ ys := fun p hp => by
    unfold before2 at hp
    split at hp
    · cases hp
    · split at hp
      · exact .inl hp
      · exact List.mem_append.1 hp
  have hz1 : ∀ p ∈ zs.take j, p ∈ xs ∨ p ∈ ys := fun p hp => by
    have := List.mem_of_mem_take hp
    rcases hz with e | e
    · rw [e] at this; exact .inl this
    · rw [e] at this; exact .inr this
  have hm : ∀ p ∈ before2 xs r ys ++ zs.take j, 0 ≤ p.2 ∧ p.2 ≤ 99 := fun p hp => by
    have : p ∈ xs ∨ p ∈ ys := (List.mem_append.1 hp).elim (hin p) (hz1 p)
    rcases this with h | h
    · have h1 := px.2.1 p h; have h2 := px.2.2.1 p h; omega
    · have h1 := py.2.1 p h; have h2 := py.2.2.1 p h; omega
  have hb := tot_bound hm u
  have h1 := px.2.2.2.2
  have h2 := py.2.2.2.2
  have h3 : (zs.take j).length ≤ 12 := by
    rw [List.length_take]
    rcases hz with e | e <;> rw [e] <;> omega
  have h4 : (before2 xs r ys).length ≤ 24 := by
    unfold before2
    split
    · simp
    · split
      · omega
      · rw [List.length_append]; omega
  rw [List.length_append] at hb
  omega

theorem look_eq {D : DataW Unit} {ps : List Pl} {t : ByteArray} {s c : Int} (hM : MapIs D ps) (hs : tot ps t = s) (hat : D.atKey (.string t.data.toList) (.lit (.int .i64 0)) = .lit (.int .i64 c)) : c = s := by
  have h1 : D.atKey (kT t) (iL 0) = iL c := hat
  rw [hM.2 t, hs] at h1
  injection h1 with h1
  injection h1 with _ h1
  exact h1.symm

end Go.Proofs.Ytojfpnjnbpeniab
