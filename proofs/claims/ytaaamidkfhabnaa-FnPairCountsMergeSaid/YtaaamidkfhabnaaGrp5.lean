/-
  Piles in a map from texts to numbers, and what is collected of it and sorted: as lists. No function of the seat.
  spec.PilesMerge, spec.l3Total, spec.PilesTotal: for lists of piles with texts of at most 1048600 bytes; what PilesMerge returns is memory of its own.
-/
import Derived.Test.YtaaamidkfhabnaaGrp2
import Derived.Maps.Ext
import Derived.Shelf.Small.Strs
import Derived.Sort.Statements
import Derived.Lib.Bytealg
import Derived.Test.YtaaamidkfhabnaaAddS
import Derived.StillTailTactics
import Derived.Maps.RangeWalk
namespace Go.Proofs.Ytaaamidkfhabnaa
open Go.RowKit Go.Maps Go.Sort

/-- A text as a key. -/
def kT (t : ByteArray) : Lit := .string t.data.toList
theorem kT_inj {a b : ByteArray} (h : kT a = kT b) : a = b := by
  unfold kT at h
  injection h with h
  exact ByteArray.ext (Array.ext' h)
theorem kT_key (t : ByteArray) : WideAt.IsKeyLit (kT t) := trivial

abbrev iL (m : Int) : DataW Unit := .lit (.int .i64 m)
/-- The map reads as the piles: each text has the number of all its ballots. -/
def MapIs (D : DataW Unit) (ps : List Pl) : Prop :=
  (∀ u, Maps.has D (kT u) = true ↔ ∃ p ∈ ps, p.1 = u) ∧ ∀ u, D.atKey (kT u) (iL 0) = iL (tot ps u)
theorem mapIs_start : MapIs (.map []) [] := ⟨fun u => by simp [Maps.has], fun u => rfl⟩
theorem tot_one (t : ByteArray) (m : Int) (u : ByteArray) : tot [(t, m)] u = if t = u then m else 0 := by simp [tot]
theorem mapIs_step {D : DataW Unit} {ps : List Pl} (h : MapIs D ps) (hD : IsMap D) (t : ByteArray) (m : Int) : MapIs (D.put (kT t) (iL (tot ps t + m))) (ps ++ [(t, m)]) := by
  refine ⟨fun u => ?_, fun u => ?_⟩
  · by_cases e : u = t
    · subst e
      rw [has_put_same hD (kT_key _)]
      simp
    · rw [has_put_other (fun h' => e (kT_inj h')), h.1 u]
      constructor
      · rintro ⟨p, hp, rfl⟩; exact ⟨p, by simp [hp], rfl⟩
      · rintro ⟨p, hp, rfl⟩
        rcases List.mem_append.1 hp with hp | hp
        · exact ⟨p, hp, rfl⟩
        · simp at hp; subst hp; exact absurd rfl e
  · rw [tot_app, tot_one]
    by_cases e : u = t
    · subst e
      rw [atKey_put_same hD (kT_key _)]
      simp
    · rw [atKey_put_other (fun h' => e (kT_inj h')), h.2 u, if_neg (fun h' => e h'.symm)]
      simp
theorem tot_absent {ps : List Pl} {u : ByteArray} (h : ¬ ∃ p ∈ ps, p.1 = u) : tot ps u = 0 := tot_none fun p hp e => h ⟨p, hp, e⟩
/-- A text that is new. -/
theorem mapIs_new {D : DataW Unit} {ps : List Pl} (h : MapIs D ps) (hD : IsMap D) {t : ByteArray} (ht : ¬ ∃ p ∈ ps, p.1 = t) (m : Int) : MapIs (D.put (kT t) (iL m)) (ps ++ [(t, m)]) := by
  have := mapIs_step h hD t m
  rwa [tot_absent ht, Int.zero_add] at this
theorem tot_bound {ps : List Pl} (h : ∀ p ∈ ps, 0 ≤ p.2 ∧ p.2 ≤ 99) (u : ByteArray) : 0 ≤ tot ps u ∧ tot ps u ≤ 99 * (ps.length : Int) := by
  induction ps with
  | nil => simp [tot]
  | cons p ps ih =>
    have i := ih (fun q hq => h q (by simp [hq]))
    have j := h p (by simp)
    have e : tot (p :: ps) u = tot [p] u + tot ps u := tot_app [p] ps u
    rw [e, tot_one, List.length_cons]
    split <;> omega
theorem tot_pos {ps : List Pl} (h : ∀ p ∈ ps, 1 ≤ p.2) {u : ByteArray} (hu : ∃ p ∈ ps, p.1 = u) : 1 ≤ tot ps u := by
  induction ps with
  | nil => obtain ⟨p, hp, _⟩ := hu; simp at hp
  | cons p ps ih =>
    have e : tot (p :: ps) u = tot [p] u + tot ps u := tot_app [p] ps u
    have j := h p (by simp)
    have hn : 0 ≤ tot ps u := by
      by_cases hh : ∃ p ∈ ps, p.1 = u
      · have := ih (fun q hq => h q (by simp [hq])) hh; omega
      · rw [tot_absent hh]; omega
    rw [e, tot_one]
    by_cases e2 : p.1 = u
    · rw [if_pos e2]; omega
    · rw [if_neg e2]
      have : ∃ q ∈ ps, q.1 = u := by
        obtain ⟨q, hq, rfl⟩ := hu
        rcases List.mem_cons.1 hq with rfl | hq
        · exact absurd rfl e2
        · exact ⟨q, hq, rfl⟩
      have := ih (fun q hq => h q (by simp [hq])) this
      omega

/-- What was collected of a map, when 'left' is still to come. -/
def Coll (D : DataW Unit) (left : Lit → Bool) (qs : List Pl) : Prop :=
  (qs.map (·.1)).Nodup ∧ (∀ u, (∃ q ∈ qs, q.1 = u) ↔ (Maps.has D (kT u) = true ∧ left (kT u) = false)) ∧ ∀ q ∈ qs, D.atKey (kT q.1) (iL 0) = iL q.2
theorem coll_start (D : DataW Unit) : Coll D (Maps.has D) [] := ⟨List.nodup_nil, fun u => by cases Maps.has D (kT u) <;> simp, fun q hq => by cases hq⟩
theorem coll_step {D : DataW Unit} {left : Lit → Bool} {qs : List Pl} (h : Coll D left qs) {x : ByteArray} {c : Int} (hl : left (kT x) = true) (hat : ∀ zd, D.atKey (kT x) zd = iL c) :
    Coll D (fun z => left z && !z.sameKey (kT x)) (qs ++ [(x, c)]) := by
  have hx : ¬ ∃ q ∈ qs, q.1 = x := fun hh => by have := ((h.2.1 x).1 hh).2; rw [hl] at this; cases this
  refine ⟨?_, fun u => ?_, fun q hq => ?_⟩
  · rw [List.map_append, List.nodup_append]
    refine ⟨h.1, by simp, fun a ha b hb e => ?_⟩
    obtain ⟨q, hq, rfl⟩ := List.mem_map.1 ha
    simp at hb
    exact hx ⟨q, hq, e.trans hb⟩
  · show (∃ q ∈ qs ++ [(x, c)], q.1 = u) ↔ (Maps.has D (kT u) = true ∧ (left (kT u) && !(kT u).sameKey (kT x)) = false)
    by_cases e : u = x
    · subst e
      rw [has_true_of_atKey hat, WideAt.sameKey_self (kT_key _)]
      simp
    · rw [sameKey_ne (fun h' => e (kT_inj h'))]
      simp only [Bool.not_false, Bool.and_true]
      rw [← h.2.1 u]
      constructor
      · rintro ⟨q, hq, rfl⟩
        rcases List.mem_append.1 hq with hq | hq
        · exact ⟨q, hq, rfl⟩
        · simp at hq; subst hq; exact absurd rfl e
      · rintro ⟨q, hq, rfl⟩; exact ⟨q, by simp [hq], rfl⟩
  · rcases List.mem_append.1 hq with hq | hq
    · exact h.2.2 q hq
    · simp at hq; subst hq; exact hat _

/-! ### The order of strings.Compare -/
theorem cmp_less : ∀ a b : List UInt8, (Lib.compareBytes a b < 0) ↔ Op.bytesLess a b = true
  | [], [] => by simp [Lib.compareBytes, Op.bytesLess]
  | [], b :: bs => by simp [Lib.compareBytes, Op.bytesLess]
  | a :: xs, [] => by simp [Lib.compareBytes, Op.bytesLess]
  | a :: xs, b :: ys => by
    have ih := cmp_less xs ys
    by_cases h : a < b
    · simp [Lib.compareBytes, Op.bytesLess, h]
    · by_cases h' : b < a
      · have : ¬ a = b := fun e => by subst e; exact h h'
        simp [Lib.compareBytes, Op.bytesLess, h, h', this]
      · have e : a = b := UInt8.le_antisymm (UInt8.not_lt.1 h') (UInt8.not_lt.1 h)
        subst e
        simp [Lib.compareBytes, Op.bytesLess, h, ih]
def cmpP (p q : Pl) : Int := Lib.compareBytes p.1.data.toList q.1.data.toList
def ltP (p q : Pl) : Bool := tl p.1 q.1
theorem lt_cmpP (p q : Pl) : decide (cmpP p q < 0) = ltP p q := by
  unfold cmpP ltP tl
  rw [ByteArray.toList_eq, ByteArray.toList_eq, Bool.eq_iff_iff]
  simp only [decide_eq_true_iff]
  exact cmp_less _ _
theorem cmp_neg (p q : Pl) : decide (0 ≤ cmpP p q) = !tl p.1 q.1 := by
  have e : tl p.1 q.1 = decide (cmpP p q < 0) := (lt_cmpP p q).symm
  rw [e]
  by_cases h : cmpP p q < 0
  · have h' : ¬ 0 ≤ cmpP p q := by omega
    simp [h, h']
  · have h' : 0 ≤ cmpP p q := by omega
    simp [h, h']
theorem swo_cmpP : SWO ltP where
  irrefl x := by exact tl_irrefl _
  trans x y z h1 h2 := tl_trans h1 h2
  ntrans x y z h1 h2 := by
    unfold ltP at *
    cases h : tl x.1 z.1 with
    | false => rfl
    | true =>
      rcases tl_tri x.1 y.1 with g | g | g
      · rw [g] at h1; cases h1
      · rw [g, h2] at h; cases h
      · rw [tl_trans g h] at h2; cases h2

/-- What was collected, sorted, ascends, and has the numbers of the piles. -/
theorem coll_sorted {D : DataW Unit} {left : Lit → Bool} {ps qs : List Pl} {d' : Array Pl} (hM : MapIs D ps) (hC : Coll D left qs) (hl : ∀ kl, left kl = false) (hp : d'.toList.Perm qs) (hs : SortedIn (ltP) 0 d'.size d') :
    Asc d'.toList ∧ (∀ u, tot d'.toList u = tot ps u) ∧ ∀ q ∈ d'.toList, ∃ p ∈ ps, p.1 = q.1 := by
  have hn : (d'.toList.map (·.1)).Nodup := (hp.map _).nodup_iff.2 hC.1
  have hA : Asc d'.toList := by
    unfold Asc
    rw [List.pairwise_iff_getElem]
    intro i j hi hj hij
    have h := hs i j (Nat.zero_le _) hij (by simpa using hj)
    unfold ltP at h
    rw [getElem!_pos d' i (by simpa using hi), getElem!_pos d' j (by simpa using hj)] at h
    simp only [Array.getElem_toList]
    rcases tl_tri d'[i].1 d'[j].1 with g | g | g
    · exact g
    · have := (List.pairwise_iff_getElem.1 hn) i j (by simpa using hi) (by simpa using hj) hij
      simp at this
      exact absurd g this
    · rw [g] at h; cases h
  have hk : ∀ q ∈ d'.toList, ∃ p ∈ ps, p.1 = q.1 := fun q hq => (hM.1 q.1).1 ((hC.2.1 q.1).1 ⟨q, hp.mem_iff.1 hq, rfl⟩).1
  refine ⟨hA, fun u => ?_, hk⟩
  by_cases hu : ∃ q ∈ d'.toList, q.1 = u
  · obtain ⟨q, hq, rfl⟩ := hu
    rw [tot_mem hA q hq]
    have h1 := hC.2.2 q (hp.mem_iff.1 hq)
    rw [hM.2 q.1] at h1
    injection h1 with h1
    injection h1 with _ h1
    exact h1.symm
  · rw [tot_absent hu, tot_absent]
    rintro hh
    have := (hC.2.1 u).2 ⟨(hM.1 u).2 hh, hl _⟩
    obtain ⟨q, hq, e⟩ := this
    exact hu ⟨q, hp.mem_iff.2 hq, e⟩
theorem tot_zero : ∀ u, tot [] u = 0 := fun _ => rfl
/-- .. so they are the piles, merged. -/
theorem coll_merge {D : DataW Unit} {left : Lit → Bool} {ps qs : List Pl} {d' : Array Pl} (hM : MapIs D ps) (hC : Coll D left qs) (hl : ∀ kl, left kl = false) (hp : d'.toList.Perm qs) (hs : SortedIn (ltP) 0 d'.size d')
    (h1 : ∀ p ∈ ps, 1 ≤ p.2) : d'.toList = mergeL [] ps := by
  obtain ⟨hA, hT, hK⟩ := coll_sorted hM hC hl hp hs
  refine piles_ext hA (asc_merge asc_nil _) (fun q hq => ?_) (pos_merge (fun p hp => by cases hp) h1) (fun u => ?_)
  · rw [← tot_mem hA q hq, hT]; exact tot_pos h1 (hK q hq)
  · rw [hT, tot_merge, tot_zero, Int.zero_add]
theorem merge_both {a b : List Pl} (ha : pilesB a = true) : mergeL [] (a ++ b) = mergeL a b := by
  have hp := pilesB_pos ha
  rw [mergeL_app]
  have e : mergeL [] a = a := piles_ext (asc_merge asc_nil _) hp.1 (pos_merge (fun p hp => by cases hp) hp.2.1) hp.2.1 (fun u => by rw [tot_merge, tot_zero, Int.zero_add])
  rw [e]

end Go.Proofs.Ytaaamidkfhabnaa

namespace Go.Proofs.Ytaaamidkfhabnaa
open Go.RowKit

theorem mAt_merge {xs ys : List Pl} (ha : pilesB xs = true) (hb : ∀ p ∈ ys, 1 ≤ p.2 ∧ p.2 ≤ 99) (hl : ys.length ≤ 100) (i : Nat) : 0 ≤ mAt (mergeL xs ys) i ∧ mAt (mergeL xs ys) i ≤ 1000000 := by
  have hp := pilesB_pos ha
  unfold mAt
  cases e : (mergeL xs ys)[i]? with
  | none => simp
  | some q =>
    have hq := List.mem_of_getElem? e
    have h1 := tot_mem (asc_merge hp.1 ys) q hq
    have h2 := tot_merge xs ys q.1
    have h3 := tot_bound (ps := xs) (fun p hm => ⟨by have := hp.2.1 p hm; omega, hp.2.2.1 p hm⟩) q.1
    have h4 := tot_bound (ps := ys) (fun p hm => ⟨by have := hb p hm; omega, (hb p hm).2⟩) q.1
    have h5 := hp.2.2.2.2
    simp only [Option.getD_some]
    omega
theorem Small.merge {xs ys : List Pl} (ha : Small xs) (hb : Small ys) : Small (mergeL xs ys) := Small.of fun q hq => by
  have mem : ∀ {ps : List Pl}, Small ps → ∀ p ∈ ps, p.1.size ≤ 1048600 := fun {ps} h p hp => by
    obtain ⟨i, hi, rfl⟩ := List.mem_iff_getElem.1 hp
    have := h i
    unfold tAt at this
    simpa [hi] using this
  rcases merge_texts q hq with ⟨p, hp, e⟩ | ⟨p, hp, e⟩
  · rw [← e]; exact mem ha p hp
  · rw [← e]; exact mem hb p hp
theorem Small.take {ps : List Pl} (h : Small ps) (k : Nat) : Small (ps.take k) := Small.of fun q hq => by
  obtain ⟨i, hi, e⟩ := List.mem_iff_getElem.1 (List.mem_of_mem_take hq)
  have := h i
  unfold tAt at this
  rw [← e]
  simpa [hi] using this
theorem take_one {ps : List Pl} {k : Nat} (h : k < ps.length) : ps.take (k + 1) = ps.take k ++ [(tAt ps k, mAt ps k)] := by
  have e : (tAt ps k, mAt ps k) = ps[k] := by simp [tAt, mAt, h]
  rw [e, List.take_succ_eq_append_getElem h]
theorem merge_step {xs ps : List Pl} {k : Nat} (h : k < ps.length) : putL (mergeL xs (ps.take k)) (tAt ps k) (mAt ps k) = mergeL xs (ps.take (k + 1)) := by rw [take_one h, mergeL_snoc]
theorem mem_valid {ps : List Pl} (h : pilesB ps = true) : ∀ p ∈ ps, 1 ≤ p.2 ∧ p.2 ≤ 99 := fun p hp => ⟨(pilesB_pos h).2.1 p hp, (pilesB_pos h).2.2.1 p hp⟩
theorem IsPiles.piles {w : World} {a : Option Addr} {len cap : Nat} {ps : List Pl} (h : IsPiles w a len cap ps) {k : Nat} (hk : k < len) : ∃ b off, a = some ⟨b, off, none⟩ ∧ b < w.heap.size ∧ w.cell? ⟨b, off + k * 2, none⟩ = some (.string (tAt ps k)) ∧ w.cell? ⟨b, off + k * 2 + 1, none⟩ = some (.int .i64 (mAt ps k)) := by
  obtain ⟨b, off, e, hb, hc⟩ := h.2.2.2 (by omega)
  exact ⟨b, off, e, hb, hc k hk⟩

theorem not_nil {w : World} {base n size : Nat} {e : TypeId} {v : Value} {xs : List Value} (h : w.ownsRow base e size v n xs) (hn : v ≠ .slice none 0 0) : ∃ g c, v = .slice (some ⟨g, 0, none⟩) n c := by
  rcases h.2 with ⟨e0, _⟩ | ⟨g, c, _, e, _⟩
  · exact absurd e0 hn
  · exact ⟨g, c, e⟩

end Go.Proofs.Ytaaamidkfhabnaa
