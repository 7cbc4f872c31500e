/-
  impl.waysToCount: the table of all ways to count. No condition.
  Piles in a map from texts to numbers, and what is collected of it and sorted: as lists. No function of the seat.
  spec.PilesMerge, spec.l3Total, spec.PilesTotal: for lists of piles with texts of at most 1048600 bytes; what PilesMerge returns is memory of its own.
  DERIVED: THE SHELF's CONTRACTS AT THIS DUMP, IN PLAIN WORDS (tools/lay-plain.mjs out of 'YtojfpnjnbpeniaaShelfHome.lean', which tools/lay-shelf.mjs wrote): THE SAME DECLARATIONS UNDER THE SAME NAMES: 'import', 'namespace', 'open', 'def', 'theorem' AND NOTHING ELSE: no command of the shelf's: FOR A HAND-IN. Each laying: the table of numbers ('.._ren') and one theorem, a field a fact of the dump's own or the kernel's comparison; each contract: ONE APPLICATION.
  impl's Pile.compare: the order of texts, byte by byte; impl.PilesValid: for every slice of piles with texts of at most 1048600 bytes. Neither writes into memory that was there.
  impl.PilesValid: for every slice of piles with texts of at most 1048600 bytes; it writes into no memory that was there.
-/
import Derived.Test.YtojfpnjnbpeniaaGrp9
import Derived.Laws.EntriesVeiled
import Derived.Shelf.Abstract
import Derived.Test.YtojfpnjnbpeniaaGrp2
import Derived.Maps.Ext
import Derived.Shelf.Small.Strs
import Derived.Sort.Statements
import Derived.Lib.Bytealg
import Derived.Test.YtojfpnjnbpeniaaGrp8
import Derived.StillTailTactics
import Derived.Maps.RangeWalk
import Derived.Shelf.SlSortCmp.WholeK
import Derived.Test.YtojfpnjnbpeniaaProg
import Derived.Test.YtojfpnjnbpeniaaGrp7
import Derived.Sort.Grow
namespace Go.Proofs.Ytojfpnjnbpeniaa
open Go.RowKit

attribute [local go_sem] Oper.semAt_some

/-- The way of a depth. -/
def wayD (g : Nat) : Value := .func (.func 113) #[] #[.pointer (some ⟨g, 0, none⟩)]
/-- The table with the first d depths. -/
def slotV (G : Nat → Nat) (d j : Nat) : Value := if j < d then wayD (G j) else if j = 6 then .func (.func 110) #[] #[] else if j = 7 then .func (.func 111) #[] #[] else .nilFunc
structure Ways (B b d : Nat) (G : Nat → Nat) (w : World) : Prop where
  lt : b < w.heap.size
  cell : ∀ j, j < 8 → w.cell? ⟨b, j, none⟩ = some (slotV G d j)
  free : ∀ j, w.frozen? ⟨b, j, none⟩ = false
  own : ∀ j, j < d → w.cell? ⟨G j, 0, none⟩ = some (.int .i64 (j : Int)) ∧ B ≤ G j ∧ G j < w.heap.size ∧ b < G j
theorem Ways.step {B b d : Nat} {G : Nat → Nat} {w : World} (h : Ways B b d G w) (hd : d < 6) (hB : B ≤ w.heap.size) (t : TypeId) :
    Ways B b (d + 1) (fun j => if j = d then w.heap.size else G j) ((w.alloc (.cells #[.int .i64 (d : Int)] t)).setCell ⟨b, d, none⟩ (wayD w.heap.size)) := by
  have hb := h.lt
  have hn : (w.alloc (.cells #[.int .i64 (d : Int)] t)).heap.size = w.heap.size + 1 := by simp
  have hold : ∀ (p : Addr), p.block < w.heap.size → (w.alloc (.cells #[.int .i64 (d : Int)] t)).cell? p = w.cell? p := fun p hp => ((Below.refl w.heap.size w).alloc (Nat.le_refl _) _).cell hp
  have hfold : ∀ (p : Addr), p.block < w.heap.size → (w.alloc (.cells #[.int .i64 (d : Int)] t)).frozen? p = w.frozen? p := fun p hp => ((Below.refl w.heap.size w).alloc (Nat.le_refl _) _).frozen hp
  refine ⟨by simp [World.setCell]; omega, fun j hj => ?_, fun j => ?_, fun j hj => ?_⟩
  · by_cases e : j = d
    · subst e
      rw [World.cell?_setCell_same' _ _ _ (by rw [hold _ hb, h.cell j hj]; rfl)]
      simp [slotV]
    · rw [World.cell?_setCell_other _ _ _ _ (by intro q; injection q with _ q; omega), hold _ hb, h.cell j hj]
      unfold slotV
      by_cases g : j < d
      · rw [if_pos g, if_pos (show j < d + 1 by omega)]; simp only [if_neg e]
      · rw [if_neg g, if_neg (show ¬ j < d + 1 by omega)]
  · rw [World.frozen?_setCell, hfold _ hb]; exact h.free j
  · by_cases e : j = d
    · subst e
      simp only [if_true]
      refine ⟨?_, hB, by simp [World.setCell], hb⟩
      rw [World.cell?_setCell_other _ _ _ _ (by intro q; injection q with q _; omega)]
      exact (World.cell?_alloc_mark w _ t (0, 0) 0).trans rfl
    · obtain ⟨h1, h2, h3, h4⟩ := h.own j (by omega)
      rw [if_neg e]
      refine ⟨?_, h2, by simp [World.setCell]; omega, h4⟩
      rw [World.cell?_setCell_other _ _ _ _ (by intro q; injection q with q _; omega), hold _ h3]
      exact h1

theorem ways_start (w : World) (t : TypeId) : Ways w.heap.size (w.heap.size + 1) 0 (fun _ => 0) ((w.alloc (.cells #[.nilFunc, .nilFunc, .nilFunc, .nilFunc, .nilFunc, .nilFunc, .nilFunc, .nilFunc] t)).alloc (.cells #[.nilFunc, .nilFunc, .nilFunc, .nilFunc, .nilFunc, .nilFunc, .func (.func 110) #[] #[], .func (.func 111) #[] #[]] t)) := by
  have hn : (w.alloc (.cells #[.nilFunc, .nilFunc, .nilFunc, .nilFunc, .nilFunc, .nilFunc, .nilFunc, .nilFunc] t)).heap.size = w.heap.size + 1 := by simp
  refine ⟨by simp, fun j hj => ?_, fun j => ?_, fun j hj => by omega⟩
  · rw [← hn]
    refine (World.cell?_alloc_mark _ _ t (0, 0) j).trans ?_
    have : j = 0 ∨ j = 1 ∨ j = 2 ∨ j = 3 ∨ j = 4 ∨ j = 5 ∨ j = 6 ∨ j = 7 := by omega
    rcases this with rfl | rfl | rfl | rfl | rfl | rfl | rfl | rfl <;> rfl
  · rw [← hn]
    exact (World.frozen?_alloc_mark _ _ t 0 0 j).trans rfl
/-- The result's block. -/
def Res8 (b : Nat) (w : World) : Prop := b < w.heap.size ∧ (∀ j, j < 8 → w.cell? ⟨b, j, none⟩ = some .nilFunc) ∧ ∀ j, w.frozen? ⟨b, j, none⟩ = false
theorem res_start (w : World) (t : TypeId) (o : Obj) : Res8 w.heap.size ((w.alloc (.cells #[.nilFunc, .nilFunc, .nilFunc, .nilFunc, .nilFunc, .nilFunc, .nilFunc, .nilFunc] t)).alloc o) := by
  have hb : Below (w.heap.size + 1) (w.alloc (.cells #[.nilFunc, .nilFunc, .nilFunc, .nilFunc, .nilFunc, .nilFunc, .nilFunc, .nilFunc] t)) ((w.alloc (.cells #[.nilFunc, .nilFunc, .nilFunc, .nilFunc, .nilFunc, .nilFunc, .nilFunc, .nilFunc] t)).alloc o) := (Below.refl _ _).alloc (by simp) _
  refine ⟨by simp; omega, fun j hj => ?_, fun j => ?_⟩
  · refine (hb.cell (p := ⟨w.heap.size, j, none⟩) (Nat.lt_succ_self _)).trans ((World.cell?_alloc_mark _ _ t (0, 0) j).trans ?_)
    have : j = 0 ∨ j = 1 ∨ j = 2 ∨ j = 3 ∨ j = 4 ∨ j = 5 ∨ j = 6 ∨ j = 7 := by omega
    rcases this with rfl | rfl | rfl | rfl | rfl | rfl | rfl | rfl <;> rfl
  · exact (hb.frozen (p := ⟨w.heap.size, j, none⟩) (Nat.lt_succ_self _)).trans ((World.frozen?_alloc_mark _ _ t 0 0 j).trans rfl)
theorem Res8.step {b c d : Nat} {w : World} (h : Res8 b w) (hbc : b ≠ c) (o : Obj) (v : Value) : Res8 b ((w.alloc o).setCell ⟨c, d, none⟩ v) := by
  have hb : Below w.heap.size w (w.alloc o) := (Below.refl _ _).alloc (Nat.le_refl _) _
  refine ⟨by simp [World.setCell]; have := h.1; omega, fun j hj => ?_, fun j => ?_⟩
  · rw [World.cell?_setCell_other _ _ _ _ (by intro q; injection q with q _; exact hbc q.symm)]
    exact (hb.cell (p := ⟨b, j, none⟩) h.1).trans (h.2.1 j hj)
  · rw [World.frozen?_setCell]; exact (hb.frozen (p := ⟨b, j, none⟩) h.1).trans (h.2.2 j)

set_option maxRecDepth 100000 in
set_option maxHeartbeats 2000000 in
/-- **waysToCount**. -/
theorem ways_any (w : World) : Calls Try.prog 84 #[] w fun e w' => ∃ G : Nat → Nat, e = .returned (.agg #[wayD (G 0), wayD (G 1), wayD (G 2), wayD (G 3), wayD (G 4), wayD (G 5), .func (.func 110) #[] #[], .func (.func 111) #[] #[]]) ∧
    (∀ j, j < 6 → w'.cell? ⟨G j, 0, none⟩ = some (.int .i64 (j : Int)) ∧ w.heap.size ≤ G j ∧ G j < w'.heap.size) ∧ Below w.heap.size w w' := by
  have hS := ways_start w 102
  have hR := res_start w 102 (.cells #[.nilFunc, .nilFunc, .nilFunc, .nilFunc, .nilFunc, .nilFunc, .func (.func 110) #[] #[], .func (.func 111) #[] #[]] 102)
  have HS := Lib.hid hS
  have HR := Lib.hid hR
  clear hS hR
  go_enter Try.func84, Try.ntmps84
  go_wp2
  go_loopw [2, 4] (fun _ dv wr => ∃ (d : Nat) (G : Nat → Nat), d ≤ 6 ∧ dv = .int .i64 (d : Int) ∧ Hid (Ways w.heap.size (w.heap.size + 1) d G wr) ∧ Hid (Res8 w.heap.size wr) ∧ Below w.heap.size w wr) (fun _ dv _ => 6 - (intOf dv).toNat)
  case atStart => exact ⟨0, fun _ => 0, by omega, rfl, HS, HR, ((Below.refl _ _).alloc (Nat.le_refl _) _).alloc (by simp) _⟩
  case round =>
    clear HS HR
    obtain ⟨d, G, hd, rfl, hW, hR, hB⟩ := hrel
    have hsz := hB.size
    by_cases hlt : d < 6
    · have hc := hW.out.cell d (by omega)
      have hf := hW.out.free d
      have hst := Lib.hid (hW.out.step hlt hsz 3)
      have hrs := Lib.hid (hR.out.step (c := w.heap.size + 1) (d := d) (by omega) (.cells #[.int .i64 (d : Int)] 3) (wayD wr.heap.size))
      have hbl := hW.out.lt
      have hb1 : Below w.heap.size w ((wr.alloc (.cells #[.int .i64 (d : Int)] 3)).setCell ⟨w.heap.size + 1, d, none⟩ (wayD wr.heap.size)) := (hB.alloc hsz _).setCell (p := ⟨w.heap.size + 1, d, none⟩) (by show w.heap.size ≤ w.heap.size + 1; omega) _
      have hbd : Below wr.heap.size wr (wr.alloc (.cells #[.int .i64 (d : Int)] 3)) := (Below.refl _ _).alloc (Nat.le_refl _) _
      have hc2 : (wr.alloc (.cells #[.int .i64 (d : Int)] 3)).cell? ⟨w.heap.size + 1, d, none⟩ = some (slotV G d d) := (hbd.cell (p := ⟨w.heap.size + 1, d, none⟩) hbl).trans hc
      have hf2 : (wr.alloc (.cells #[.int .i64 (d : Int)] 3)).frozen? ⟨w.heap.size + 1, d, none⟩ = false := (hbd.frozen (p := ⟨w.heap.size + 1, d, none⟩) hbl).trans hf
      have hdi : (d : Int) < 8 := by omega
      clear hc hf hbd
      obtain ⟨s0, hs0⟩ : ∃ s0, slotV G d d = s0 := ⟨_, rfl⟩
      rw [hs0] at hc2
      clear hs0
      have he : (wr.alloc (.cells #[.int .i64 (d : Int)] 3)).setCell ⟨w.heap.size + 1, d, none⟩ (wayD wr.heap.size) = (wr.setCell ⟨w.heap.size + 1, d, none⟩ (wayD wr.heap.size)).alloc (.cells #[.int .i64 (d : Int)] 3) := World.setCell_alloc_past _ _ _ _ hbl
      rw [he] at hst hrs hb1
      clear he
      go_wp2
      go_roundw
      case rel => exact ⟨d + 1, _, by omega, by go_num, hst, hrs, hb1⟩
      case measure => simp [intOf]; omega
    · obtain rfl : d = 6 := by omega
      have k0 := hW.out.cell 0 (by omega)
      have k1 := hW.out.cell 1 (by omega)
      have k2 := hW.out.cell 2 (by omega)
      have k3 := hW.out.cell 3 (by omega)
      have k4 := hW.out.cell 4 (by omega)
      have k5 := hW.out.cell 5 (by omega)
      have k6 := hW.out.cell 6 (by omega)
      have k7 := hW.out.cell 7 (by omega)
      simp only [slotV, wayD] at k0 k1 k2 k3 k4 k5 k6 k7
      have r0 := hR.out.2.1 0 (by omega)
      have r1 := hR.out.2.1 1 (by omega)
      have r2 := hR.out.2.1 2 (by omega)
      have r3 := hR.out.2.1 3 (by omega)
      have r4 := hR.out.2.1 4 (by omega)
      have r5 := hR.out.2.1 5 (by omega)
      have r6 := hR.out.2.1 6 (by omega)
      have r7 := hR.out.2.1 7 (by omega)
      have f0 := hR.out.2.2 0
      have f1 := hR.out.2.2 1
      have f2 := hR.out.2.2 2
      have f3 := hR.out.2.2 3
      have f4 := hR.out.2.2 4
      have f5 := hR.out.2.2 5
      have f6 := hR.out.2.2 6
      have f7 := hR.out.2.2 7
      have HO := Lib.hid hW.out.own
      clear hW hR
      go_wp2
      refine bodyPost_ret (v := .agg #[wayD (G 0), wayD (G 1), wayD (G 2), wayD (G 3), wayD (G 4), wayD (G 5), .func (.func 110) #[] #[], .func (.func 111) #[] #[]]) (by simp [results, Try.results84, go_sem, wayD, r0, r1, r2, r3, r4, r5, r6, r7]) rfl ?_
      have hset : ∀ (u : World) (o : Nat) (v : Value) (g : Nat), g ≠ w.heap.size → (u.setCell ⟨w.heap.size, o, none⟩ v).cell? ⟨g, 0, none⟩ = u.cell? ⟨g, 0, none⟩ := fun u o v g hg => World.cell?_setCell_other _ _ _ _ (by intro q; injection q with q _; exact hg q.symm)
      refine ⟨G, rfl, fun j hj => ?_, ?_⟩
      · obtain ⟨h1, h2, h3, h4⟩ := HO.out j hj
        refine ⟨?_, h2, by simpa [World.setCell] using h3⟩
        rw [hset _ _ _ _ (by omega), hset _ _ _ _ (by omega), hset _ _ _ _ (by omega), hset _ _ _ _ (by omega), hset _ _ _ _ (by omega), hset _ _ _ _ (by omega), hset _ _ _ _ (by omega), hset _ _ _ _ (by omega)]
        exact h1
      · exact (((((((hB.setCell (p := ⟨w.heap.size, 0, none⟩) (Nat.le_refl _) _).setCell (p := ⟨w.heap.size, 1, none⟩) (Nat.le_refl _) _).setCell (p := ⟨w.heap.size, 2, none⟩) (Nat.le_refl _) _).setCell (p := ⟨w.heap.size, 3, none⟩) (Nat.le_refl _) _).setCell (p := ⟨w.heap.size, 4, none⟩) (Nat.le_refl _) _).setCell (p := ⟨w.heap.size, 5, none⟩) (Nat.le_refl _) _).setCell (p := ⟨w.heap.size, 6, none⟩) (Nat.le_refl _) _).setCell (p := ⟨w.heap.size, 7, none⟩) (Nat.le_refl _) _

end Go.Proofs.Ytojfpnjnbpeniaa

namespace Go.Proofs.Ytojfpnjnbpeniaa
open Go.RowKit Go.Maps Go.Sort

/-- A text as a key. -/
def kT (t : ByteArray) : Lit := .string t.data.toList
theorem kT_inj {a b : ByteArray} (h : kT a = kT b) : a = b := by
  unfold kT at h
  injection h with h
  exact ByteArray.ext (Array.ext' h)
theorem kT_key (t : ByteArray) : WideAt.IsKeyLit (kT t) := trivial

abbrev iL (m : Int) : DataW Unit := .lit (.int .i64 m)
/-- The map reads as the piles: each text has the number of all its ballots. -/
def MapIs (D : DataW Unit) (ps : List Pl) : Prop :=
  (∀ u, Maps.has D (kT u) = true ↔ ∃ p ∈ ps, p.1 = u) ∧ ∀ u, D.atKey (kT u) (iL 0) = iL (tot ps u)
theorem mapIs_start : MapIs (.map []) [] := ⟨fun u => by simp [Maps.has], fun u => rfl⟩
theorem tot_one (t : ByteArray) (m : Int) (u : ByteArray) : tot [(t, m)] u = if t = u then m else 0 := by simp [tot]
theorem mapIs_step {D : DataW Unit} {ps : List Pl} (h : MapIs D ps) (hD : IsMap D) (t : ByteArray) (m : Int) : MapIs (D.put (kT t) (iL (tot ps t + m))) (ps ++ [(t, m)]) := by
  refine ⟨fun u => ?_, fun u => ?_⟩
  · by_cases e : u = t
    · subst e
      rw [has_put_same hD (kT_key _)]
      simp
    · rw [has_put_other (fun h' => e (kT_inj h')), h.1 u]
      constructor
      · rintro ⟨p, hp, rfl⟩; exact ⟨p, by simp [hp], rfl⟩
      · rintro ⟨p, hp, rfl⟩
        rcases List.mem_append.1 hp with hp | hp
        · exact ⟨p, hp, rfl⟩
        · simp at hp; subst hp; exact absurd rfl e
  · rw [tot_app, tot_one]
    by_cases e : u = t
    · subst e
      rw [atKey_put_same hD (kT_key _)]
      simp
    · rw [atKey_put_other (fun h' => e (kT_inj h')), h.2 u, if_neg (fun h' => e h'.symm)]
      simp
theorem tot_absent {ps : List Pl} {u : ByteArray} (h : ¬ ∃ p ∈ ps, p.1 = u) : tot ps u = 0 := tot_none fun p hp e => h ⟨p, hp, e⟩
/-- A text that is new. -/
theorem mapIs_new {D : DataW Unit} {ps : List Pl} (h : MapIs D ps) (hD : IsMap D) {t : ByteArray} (ht : ¬ ∃ p ∈ ps, p.1 = t) (m : Int) : MapIs (D.put (kT t) (iL m)) (ps ++ [(t, m)]) := by
  have := mapIs_step h hD t m
  rwa [tot_absent ht, Int.zero_add] at this
theorem tot_bound {ps : List Pl} (h : ∀ p ∈ ps, 0 ≤ p.2 ∧ p.2 ≤ 99) (u : ByteArray) : 0 ≤ tot ps u ∧ tot ps u ≤ 99 * (ps.length : Int) := by
  induction ps with
  | nil => simp [tot]
  | cons p ps ih =>
    have i := ih (fun q hq => h q (by simp [hq]))
    have j := h p (by simp)
    have e : tot (p :: ps) u = tot [p] u + tot ps u := tot_app [p] ps u
    rw [e, tot_one, List.length_cons]
    split <;> omega
theorem tot_pos {ps : List Pl} (h : ∀ p ∈ ps, 1 ≤ p.2) {u : ByteArray} (hu : ∃ p ∈ ps, p.1 = u) : 1 ≤ tot ps u := by
  induction ps with
  | nil => obtain ⟨p, hp, _⟩ := hu; simp at hp
  | cons p ps ih =>
    have e : tot (p :: ps) u = tot [p] u + tot ps u := tot_app [p] ps u
    have j := h p (by simp)
    have hn : 0 ≤ tot ps u := by
      by_cases hh : ∃ p ∈ ps, p.1 = u
      · have := ih (fun q hq => h q (by simp [hq])) hh; omega
      · rw [tot_absent hh]; omega
    rw [e, tot_one]
    by_cases e2 : p.1 = u
    · rw [if_pos e2]; omega
    · rw [if_neg e2]
      have : ∃ q ∈ ps, q.1 = u := by
        obtain ⟨q, hq, rfl⟩ := hu
        rcases List.mem_cons.1 hq with rfl | hq
        · exact absurd rfl e2
        · exact ⟨q, hq, rfl⟩
      have := ih (fun q hq => h q (by simp [hq])) this
      omega

/-- What was collected of a map, when 'left' is still to come. -/
def Coll (D : DataW Unit) (left : Lit → Bool) (qs : List Pl) : Prop :=
  (qs.map (·.1)).Nodup ∧ (∀ u, (∃ q ∈ qs, q.1 = u) ↔ (Maps.has D (kT u) = true ∧ left (kT u) = false)) ∧ ∀ q ∈ qs, D.atKey (kT q.1) (iL 0) = iL q.2
theorem coll_start (D : DataW Unit) : Coll D (Maps.has D) [] := ⟨List.nodup_nil, fun u => by cases Maps.has D (kT u) <;> simp, fun q hq => by cases hq⟩
theorem coll_step {D : DataW Unit} {left : Lit → Bool} {qs : List Pl} (h : Coll D left qs) {x : ByteArray} {c : Int} (hl : left (kT x) = true) (hat : ∀ zd, D.atKey (kT x) zd = iL c) :
    Coll D (fun z => left z && !z.sameKey (kT x)) (qs ++ [(x, c)]) := by
  have hx : ¬ ∃ q ∈ qs, q.1 = x := fun hh => by have := ((h.2.1 x).1 hh).2; rw [hl] at this; cases this
  refine ⟨?_, fun u => ?_, fun q hq => ?_⟩
  · rw [List.map_append, List.nodup_append]
    refine ⟨h.1, by simp, fun a ha b hb e => ?_⟩
    obtain ⟨q, hq, rfl⟩ := List.mem_map.1 ha
    simp at hb
    exact hx ⟨q, hq, e.trans hb⟩
  · show (∃ q ∈ qs ++ [(x, c)], q.1 = u) ↔ (Maps.has D (kT u) = true ∧ (left (kT u) && !(kT u).sameKey (kT x)) = false)
    by_cases e : u = x
    · subst e
      rw [has_true_of_atKey hat, WideAt.sameKey_self (kT_key _)]
      simp
    · rw [sameKey_ne (fun h' => e (kT_inj h'))]
      simp only [Bool.not_false, Bool.and_true]
      rw [← h.2.1 u]
      constructor
      · rintro ⟨q, hq, rfl⟩
        rcases List.mem_append.1 hq with hq | hq
        · exact ⟨q, hq, rfl⟩
        · simp at hq; subst hq; exact absurd rfl e
      · rintro ⟨q, hq, rfl⟩; exact ⟨q, by simp [hq], rfl⟩
  · rcases List.mem_append.1 hq with hq | hq
    · exact h.2.2 q hq
    · simp at hq; subst hq; exact hat _

/-! ### The order of strings.Compare -/
theorem cmp_less : ∀ a b : List UInt8, (Lib.compareBytes a b < 0) ↔ Op.bytesLess a b = true
  | [], [] => by simp [Lib.compareBytes, Op.bytesLess]
  | [], b :: bs => by simp [Lib.compareBytes, Op.bytesLess]
  | a :: xs, [] => by simp [Lib.compareBytes, Op.bytesLess]
  | a :: xs, b :: ys => by
    have ih := cmp_less xs ys
    by_cases h : a < b
    · simp [Lib.compareBytes, Op.bytesLess, h]
    · by_cases h' : b < a
      · have : ¬ a = b := fun e => by subst e; exact h h'
        simp [Lib.compareBytes, Op.bytesLess, h, h', this]
      · have e : a = b := UInt8.le_antisymm (UInt8.not_lt.1 h') (UInt8.not_lt.1 h)
        subst e
        simp [Lib.compareBytes, Op.bytesLess, h, ih]
def cmpP (p q : Pl) : Int := Lib.compareBytes p.1.data.toList q.1.data.toList
def ltP (p q : Pl) : Bool := tl p.1 q.1
theorem lt_cmpP (p q : Pl) : decide (cmpP p q < 0) = ltP p q := by
  unfold cmpP ltP tl
  rw [ByteArray.toList_eq, ByteArray.toList_eq, Bool.eq_iff_iff]
  simp only [decide_eq_true_iff]
  exact cmp_less _ _
theorem cmp_neg (p q : Pl) : decide (0 ≤ cmpP p q) = !tl p.1 q.1 := by
  have e : tl p.1 q.1 = decide (cmpP p q < 0) := (lt_cmpP p q).symm
  rw [e]
  by_cases h : cmpP p q < 0
  · have h' : ¬ 0 ≤ cmpP p q := by omega
    simp [h, h']
  · have h' : 0 ≤ cmpP p q := by omega
    simp [h, h']
theorem swo_cmpP : SWO ltP where
  irrefl x := by exact tl_irrefl _
  trans x y z h1 h2 := tl_trans h1 h2
  ntrans x y z h1 h2 := by
    unfold ltP at *
    cases h : tl x.1 z.1 with
    | false => rfl
    | true =>
      rcases tl_tri x.1 y.1 with g | g | g
      · rw [g] at h1; cases h1
      · rw [g, h2] at h; cases h
      · rw [tl_trans g h] at h2; cases h2

/-- What was collected, sorted, ascends, and has the numbers of the piles. -/
theorem coll_sorted {D : DataW Unit} {left : Lit → Bool} {ps qs : List Pl} {d' : Array Pl} (hM : MapIs D ps) (hC : Coll D left qs) (hl : ∀ kl, left kl = false) (hp : d'.toList.Perm qs) (hs : SortedIn (ltP) 0 d'.size d') :
    Asc d'.toList ∧ (∀ u, tot d'.toList u = tot ps u) ∧ ∀ q ∈ d'.toList, ∃ p ∈ ps, p.1 = q.1 := by
  have hn : (d'.toList.map (·.1)).Nodup := (hp.map _).nodup_iff.2 hC.1
  have hA : Asc d'.toList := by
    unfold Asc
    rw [List.pairwise_iff_getElem]
    intro i j hi hj hij
    have h := hs i j (Nat.zero_le _) hij (by simpa using hj)
    unfold ltP at h
    rw [getElem!_pos d' i (by simpa using hi), getElem!_pos d' j (by simpa using hj)] at h
    simp only [Array.getElem_toList]
    rcases tl_tri d'[i].1 d'[j].1 with g | g | g
    · exact g
    · have := (List.pairwise_iff_getElem.1 hn) i j (by simpa using hi) (by simpa using hj) hij
      simp at this
      exact absurd g this
    · rw [g] at h; cases h
  have hk : ∀ q ∈ d'.toList, ∃ p ∈ ps, p.1 = q.1 := fun q hq => (hM.1 q.1).1 ((hC.2.1 q.1).1 ⟨q, hp.mem_iff.1 hq, rfl⟩).1
  refine ⟨hA, fun u => ?_, hk⟩
  by_cases hu : ∃ q ∈ d'.toList, q.1 = u
  · obtain ⟨q, hq, rfl⟩ := hu
    rw [tot_mem hA q hq]
    have h1 := hC.2.2 q (hp.mem_iff.1 hq)
    rw [hM.2 q.1] at h1
    injection h1 with h1
    injection h1 with _ h1
    exact h1.symm
  · rw [tot_absent hu, tot_absent]
    rintro hh
    have := (hC.2.1 u).2 ⟨(hM.1 u).2 hh, hl _⟩
    obtain ⟨q, hq, e⟩ := this
    exact hu ⟨q, hp.mem_iff.2 hq, e⟩
theorem tot_zero : ∀ u, tot [] u = 0 := fun _ => rfl
/-- .. so they are the piles, merged. -/
theorem coll_merge {D : DataW Unit} {left : Lit → Bool} {ps qs : List Pl} {d' : Array Pl} (hM : MapIs D ps) (hC : Coll D left qs) (hl : ∀ kl, left kl = false) (hp : d'.toList.Perm qs) (hs : SortedIn (ltP) 0 d'.size d')
    (h1 : ∀ p ∈ ps, 1 ≤ p.2) : d'.toList = mergeL [] ps := by
  obtain ⟨hA, hT, hK⟩ := coll_sorted hM hC hl hp hs
  refine piles_ext hA (asc_merge asc_nil _) (fun q hq => ?_) (pos_merge (fun p hp => by cases hp) h1) (fun u => ?_)
  · rw [← tot_mem hA q hq, hT]; exact tot_pos h1 (hK q hq)
  · rw [hT, tot_merge, tot_zero, Int.zero_add]
theorem merge_both {a b : List Pl} (ha : pilesB a = true) : mergeL [] (a ++ b) = mergeL a b := by
  have hp := pilesB_pos ha
  rw [mergeL_app]
  have e : mergeL [] a = a := piles_ext (asc_merge asc_nil _) hp.1 (pos_merge (fun p hp => by cases hp) hp.2.1) hp.2.1 (fun u => by rw [tot_merge, tot_zero, Int.zero_add])
  rw [e]

end Go.Proofs.Ytojfpnjnbpeniaa

namespace Go.Proofs.Ytojfpnjnbpeniaa
open Go.RowKit

theorem mAt_merge {xs ys : List Pl} (ha : pilesB xs = true) (hb : ∀ p ∈ ys, 1 ≤ p.2 ∧ p.2 ≤ 99) (hl : ys.length ≤ 100) (i : Nat) : 0 ≤ mAt (mergeL xs ys) i ∧ mAt (mergeL xs ys) i ≤ 1000000 := by
  have hp := pilesB_pos ha
  unfold mAt
  cases e : (mergeL xs ys)[i]? with
  | none => simp
  | some q =>
    have hq := List.mem_of_getElem? e
    have h1 := tot_mem (asc_merge hp.1 ys) q hq
    have h2 := tot_merge xs ys q.1
    have h3 := tot_bound (ps := xs) (fun p hm => ⟨by have := hp.2.1 p hm; omega, hp.2.2.1 p hm⟩) q.1
    have h4 := tot_bound (ps := ys) (fun p hm => ⟨by have := hb p hm; omega, (hb p hm).2⟩) q.1
    have h5 := hp.2.2.2.2
    simp only [Option.getD_some]
    omega
theorem Small.merge {xs ys : List Pl} (ha : Small xs) (hb : Small ys) : Small (mergeL xs ys) := Small.of fun q hq => by
  have mem : ∀ {ps : List Pl}, Small ps → ∀ p ∈ ps, p.1.size ≤ 1048600 := fun {ps} h p hp => by
    obtain ⟨i, hi, rfl⟩ := List.mem_iff_getElem.1 hp
    have := h i
    unfold tAt at this
    simpa [hi] using this
  rcases merge_texts q hq with ⟨p, hp, e⟩ | ⟨p, hp, e⟩
  · rw [← e]; exact mem ha p hp
  · rw [← e]; exact mem hb p hp
theorem Small.take {ps : List Pl} (h : Small ps) (k : Nat) : Small (ps.take k) := Small.of fun q hq => by
  obtain ⟨i, hi, e⟩ := List.mem_iff_getElem.1 (List.mem_of_mem_take hq)
  have := h i
  unfold tAt at this
  rw [← e]
  simpa [hi] using this
theorem take_one {ps : List Pl} {k : Nat} (h : k < ps.length) : ps.take (k + 1) = ps.take k ++ [(tAt ps k, mAt ps k)] := by
  have e : (tAt ps k, mAt ps k) = ps[k] := by simp [tAt, mAt, h]
  rw [e, List.take_succ_eq_append_getElem h]
theorem merge_step {xs ps : List Pl} {k : Nat} (h : k < ps.length) : putL (mergeL xs (ps.take k)) (tAt ps k) (mAt ps k) = mergeL xs (ps.take (k + 1)) := by rw [take_one h, mergeL_snoc]
theorem mem_valid {ps : List Pl} (h : pilesB ps = true) : ∀ p ∈ ps, 1 ≤ p.2 ∧ p.2 ≤ 99 := fun p hp => ⟨(pilesB_pos h).2.1 p hp, (pilesB_pos h).2.2.1 p hp⟩
theorem IsPiles.piles {w : World} {a : Option Addr} {len cap : Nat} {ps : List Pl} (h : IsPiles w a len cap ps) {k : Nat} (hk : k < len) : ∃ b off, a = some ⟨b, off, none⟩ ∧ b < w.heap.size ∧ w.cell? ⟨b, off + k * 2, none⟩ = some (.string (tAt ps k)) ∧ w.cell? ⟨b, off + k * 2 + 1, none⟩ = some (.int .i64 (mAt ps k)) := by
  obtain ⟨b, off, e, hb, hc⟩ := h.2.2.2 (by omega)
  exact ⟨b, off, e, hb, hc k hk⟩

theorem not_nil {w : World} {base n size : Nat} {e : TypeId} {v : Value} {xs : List Value} (h : w.ownsRow base e size v n xs) (hn : v ≠ .slice none 0 0) : ∃ g c, v = .slice (some ⟨g, 0, none⟩) n c := by
  rcases h.2 with ⟨e0, _⟩ | ⟨g, c, _, e, _⟩
  · exact absurd e0 hn
  · exact ⟨g, c, e⟩

end Go.Proofs.Ytojfpnjnbpeniaa

namespace Go.Proofs
open Go.Shelf
def Try.cmpStr_ren : Go.Shelf.Ren := ⟨fun | 106 => 139 | 213 => 153 | 265 => 165 | n => n, fun | 9 => 9 | 3 => 3 | n => n, fun | n => n⟩
theorem Try.cmpStr : Go.Proofs.Lays.n106 Try.prog Try.cmpStr_ren := {
  mixed := by kernel_rfl
  f106 := Try.func139.trans (congrArg some (by kernel_rfl))
  f213 := Try.func153.trans (congrArg some (by kernel_rfl))
  f265 := Try.func165.trans (congrArg some (by kernel_rfl))
  t3 := Try.underlying3
  a3 := Try.isAgg3
  z3 := Try.sizeOf3
  v3 := Try.zeroValue3
  t9 := Try.underlying9
  a9 := Try.isAgg9
  z9 := Try.sizeOf9
  v9 := Try.zeroValue9 }
def Try.sortPile_ren : Go.Shelf.Ren := ⟨fun | 6 => 105 | 15 => 143 | 14 => 142 | 28 => 162 | 29 => 163 | 20 => 154 | 21 => 155 | 22 => 156 | 23 => 157 | 24 => 158 | 25 => 159 | 26 => 160 | 27 => 161 | 46 => 166 | 47 => 167 | 48 => 168 | 49 => 169 | 50 => 170 | 57 => 171 | n => n, fun | 22 => 23 | 24 => 36 | 25 => 134 | 3 => 3 | 39 => 154 | 0 => 0 | 53 => 116 | 55 => 113 | 4 => 4 | 46 => 178 | 45 => 177 | 50 => 182 | 5 => 5 | 9 => 9 | 66 => 186 | 70 => 189 | 76 => 191 | 77 => 39 | n => n, fun | n => n⟩
theorem Try.sortPile : Go.Proofs.SlLaysF0.n6 Try.prog Try.sortPile_ren := {
  mixed := by kernel_rfl
  f6 := ⟨Try.f105.name, by decide, Try.func105.trans (congrArg some (by kernel_rfl))⟩
  f14 := ⟨Try.f142.name, by decide, Try.func142.trans (congrArg some (by kernel_rfl))⟩
  f15 := Try.func143.trans (congrArg some (by kernel_rfl))
  f20 := ⟨Try.f154.name, by decide, Try.func154.trans (congrArg some (by kernel_rfl))⟩
  f21 := ⟨Try.f155.name, by decide, Try.func155.trans (congrArg some (by kernel_rfl))⟩
  f22 := ⟨Try.f156.name, by decide, Try.func156.trans (congrArg some (by kernel_rfl))⟩
  f23 := ⟨Try.f157.name, by decide, Try.func157.trans (congrArg some (by kernel_rfl))⟩
  f24 := ⟨Try.f158.name, by decide, Try.func158.trans (congrArg some (by kernel_rfl))⟩
  f25 := ⟨Try.f159.name, by decide, Try.func159.trans (congrArg some (by kernel_rfl))⟩
  f26 := ⟨Try.f160.name, by decide, Try.func160.trans (congrArg some (by kernel_rfl))⟩
  f27 := ⟨Try.f161.name, by decide, Try.func161.trans (congrArg some (by kernel_rfl))⟩
  f28 := Try.func162.trans (congrArg some (by kernel_rfl))
  f29 := Try.func163.trans (congrArg some (by kernel_rfl))
  f46 := ⟨Try.f166.name, by decide, Try.func166.trans (congrArg some (by kernel_rfl))⟩
  f47 := Try.func167.trans (congrArg some (by kernel_rfl))
  f48 := Try.func168.trans (congrArg some (by kernel_rfl))
  f49 := ⟨Try.f169.name, by decide, Try.func169.trans (congrArg some (by kernel_rfl))⟩
  f50 := ⟨Try.f170.name, by decide, Try.func170.trans (congrArg some (by kernel_rfl))⟩
  f57 := ⟨Try.f171.name, by decide, Try.func171.trans (congrArg some (by kernel_rfl))⟩
  t0 := Try.underlying0
  a0 := Try.isAgg0
  z0 := Try.sizeOf0
  v0 := Try.zeroValue0
  t3 := Try.underlying3
  a3 := Try.isAgg3
  z3 := Try.sizeOf3
  v3 := Try.zeroValue3
  t4 := Try.underlying4
  a4 := Try.isAgg4
  z4 := Try.sizeOf4
  v4 := Try.zeroValue4
  t5 := Try.underlying5
  a5 := Try.isAgg5
  z5 := Try.sizeOf5
  v5 := Try.zeroValue5
  t9 := Try.underlying9
  a9 := Try.isAgg9
  z9 := Try.sizeOf9
  v9 := Try.zeroValue9
  t22 := Try.underlying23
  a22 := Try.isAgg23
  z22 := Try.sizeOf23
  v22 := Try.zeroValue23
  t25 := Try.underlying134
  a25 := Try.isAgg134
  z25 := Try.sizeOf134
  v25 := Try.zeroValue134
  t39 := Try.underlying154
  a39 := Try.isAgg154
  z39 := Try.sizeOf154
  v39 := Try.zeroValue154
  t45 := Try.underlying177
  a45 := Try.isAgg177
  z45 := Try.sizeOf177
  v45 := Try.zeroValue177
  t46 := Try.underlying178
  a46 := Try.isAgg178
  z46 := Try.sizeOf178
  v46 := Try.zeroValue178
  t50 := Try.underlying182
  a50 := Try.isAgg182
  z50 := Try.sizeOf182
  v50 := Try.zeroValue182
  t53 := Try.underlying116
  a53 := Try.isAgg116
  z53 := Try.sizeOf116
  v53 := Try.zeroValue116
  t55 := Try.underlying113
  a55 := Try.isAgg113
  z55 := Try.sizeOf113
  v55 := Try.zeroValue113
  t66 := Try.underlying186
  a66 := Try.isAgg186
  z66 := Try.sizeOf186
  v66 := Try.zeroValue186
  t70 := Try.underlying189
  a70 := Try.isAgg189
  z70 := Try.sizeOf189
  v70 := Try.zeroValue189
  t76 := Try.underlying191
  a76 := Try.isAgg191
  z76 := Try.sizeOf191
  v76 := Try.zeroValue191
  t77 := Try.underlying39
  a77 := Try.isAgg39
  z77 := Try.sizeOf39
  v77 := Try.zeroValue39 }
end Go.Proofs

namespace Go.Proofs.Ytojfpnjnbpeniaa
open Go.RowKit Go.Shelf Go.Sort

theorem below_grow {B : Nat} {w w' : World} (h : Below B w w') (hB : B ≤ w.heap.size) (os : Array Obj) : Below B w (grow w' os) := ⟨h.os, h.tape, h.output, by have := h.size; simp; omega, fun k hk => (heap_grow_old _ _ (Nat.lt_of_lt_of_le hk (Nat.le_trans hB h.size))).trans (h.block k hk)⟩

set_option maxHeartbeats 1000000 in
/-- **impl's Pile.compare**. -/
theorem compare_any (p q : Pl) (w : World) :
    Calls Try.prog 97 #[.agg #[.string p.1, .int .i64 p.2], .agg #[.string q.1, .int .i64 q.2]] w fun e w' => e = .returned (.int .i64 (cmpP p q)) ∧ ∃ n os, w' = grow (w.drewN n) os := by
  obtain ⟨r, hr⟩ : ∃ r, Lib.compareBytes p.1.data.toList q.1.data.toList = r := ⟨_, rfl⟩
  have hcon := fun W => Any.strings_Compare Try.cmpStr p.1 q.1 W
  change ∀ W, Calls Try.prog 139 _ _ _ at hcon
  rw [hr] at hcon
  have HR : Hid (cmpP p q = r) := hr
  clear hr
  go_enter Try.func97, Try.ntmps97
  go_wp2_with (go_at_call 139; refine (hcon _).mono ?_; rintro e w' ⟨rfl, rfl⟩)
  go_ret
  exact ⟨ret_int HR.out.symm, 0, _, by rw [alloc_eq_grow, alloc_eq_grow, grow_grow]; rfl⟩
theorem compare_below (p q : Pl) (w : World) :
    Calls Try.prog 97 #[.agg #[.string p.1, .int .i64 p.2], .agg #[.string q.1, .int .i64 q.2]] w fun e w' => e = .returned (.int .i64 (cmpP p q)) ∧ Below w.heap.size w w' :=
  (compare_any p q w).mono fun _ _ ⟨he, n, os, hw⟩ => ⟨he, by subst hw; exact below_grow (below_drewN _ _ _) (Nat.le_refl _) _⟩
theorem compare_as (t : ByteArray) (m : Int) (t' : ByteArray) (m' : Int) (r : Int) (w : World) (h : cmpP (t, m) (t', m') = r) :
    Calls Try.prog 97 #[.agg #[.string t, .int .i64 m], .agg #[.string t', .int .i64 m']] w fun e w' => e = .returned (.int .i64 r) ∧ Below w.heap.size w w' := by
  subst h; exact compare_below (t, m) (t', m') w
theorem enters_compare : ∀ args w, (callFunc 97 args).run Try.prog w = .ok (.enter 97 args) w := enters_of Try.func97 (by kernel_rfl) rfl

end Go.Proofs.Ytojfpnjnbpeniaa

namespace Go.Proofs.Ytojfpnjnbpeniaa
open Go.RowKit

set_option maxRecDepth 100000 in
set_option maxHeartbeats 2000000 in
/-- **impl.PilesValid** answers as the model does. -/
theorem implPiles_any (a : Option Addr) (len cap : Nat) (ps : List Pl) (w : World) (h : IsPiles w a len cap ps) (hs : Small ps) :
    Calls Try.prog 58 #[.slice a len cap] w fun e w' => e = .returned (.bool (pilesB ps)) ∧ Below w.heap.size w w' := by
  obtain ⟨h1, h2, h3, h4⟩ := h
  have H1 := Lib.hid h1; clear h1
  have H4 := Lib.hid h4; clear h4
  have HS := Lib.hid hs; clear hs
  obtain ⟨g, hg⟩ : ∃ g, w.heap.size = g := ⟨_, rfl⟩
  by_cases hlong : 12 < len
  · have hgt : decide ((12 : Int) < (len : Int)) = true := decide_eq_true (by omega)
    have HE : Hid (pilesB ps = false) := by
      unfold Hid pilesB
      rw [H1.out, decide_eq_false (by omega)]; simp
    go_enter Try.func58, Try.ntmps58
    go_wp2
    go_ret
    exact ⟨ret_bool HE.out.symm, Below.refl _ _⟩
  · have hgt : decide ((12 : Int) < (len : Int)) = false := decide_eq_false (by omega)
    have hl12 : (len : Int) ≤ 12 := by omega
    go_enter Try.func58, Try.ntmps58
    go_wp2
    go_loopw [10] (fun i wr => ∃ k : Nat, k ≤ len ∧ i = .int .i64 k ∧ Hid (ascTo ps k = true) ∧ Below g w wr) (fun i _ => len - (intOf i).toNat)
    case atStart => exact ⟨0, Nat.zero_le _, rfl, rfl, Below.refl _ _⟩
    case round =>
      obtain ⟨k, hk, rfl, hA, hB⟩ := hrel
      by_cases hlt : k < len
      · obtain ⟨b, off, rfl, hb, hcell⟩ := H4.out (by omega)
        obtain ⟨t, ht⟩ : ∃ t, tAt ps k = t := ⟨_, rfl⟩
        obtain ⟨m, hm⟩ : ∃ m, mAt ps k = m := ⟨_, rfl⟩
        obtain ⟨v, hv⟩ : ∃ v, pileB t m = v := ⟨_, rfl⟩
        have hst : t.size ≤ 1048600 := by rw [← ht]; exact HS.out k
        have hbg : b < g := by rw [← hg]; exact hb
        have c0 : wr.cell? ⟨b, off + k * 2, none⟩ = some (.string t) := by rw [hB.cell (p := ⟨b, off + k * 2, none⟩) hbg, (hcell k hlt).1, ht]
        have c1 : wr.cell? ⟨b, off + k * 2 + 1, none⟩ = some (.int .i64 m) := by rw [hB.cell (p := ⟨b, off + k * 2 + 1, none⟩) hbg, (hcell k hlt).2, hm]
        have hbr : b < wr.heap.size := Nat.lt_of_lt_of_le (hg.symm ▸ hbg) hB.size
        obtain ⟨W, hW⟩ : ∃ W, wr.alloc (.cells #[.string t, .int .i64 m] 36) = W := ⟨_, rfl⟩
        have hBW : Below g w W := by rw [← hW]; exact hB.alloc (hg ▸ hB.size) _
        have hbW : b < W.heap.size := by rw [← hW]; simp; omega
        have d0 : W.cell? ⟨b, off + k * 2, none⟩ = some (.string t) := by rw [← hW, World.cell?_alloc_past _ _ _ hbr]; exact c0
        have d1 : W.cell? ⟨b, off + k * 2 + 1, none⟩ = some (.int .i64 m) := by rw [← hW, World.cell?_alloc_past _ _ _ hbr]; exact c1
        have e0 : W.cell? ⟨wr.heap.size, 0, none⟩ = some (.string t) := by rw [← hW]; exact World.cell?_alloc_new wr _ _ 0
        have e1 : W.cell? ⟨wr.heap.size, 1, none⟩ = some (.int .i64 m) := by rw [← hW]; exact World.cell?_alloc_new wr _ _ 1
        have hwW : wr.heap.size < W.heap.size := by rw [← hW]; simp
        have u0 : ∀ u : Beh W, u.w.cell? ⟨b, off + k * 2, none⟩ = some (.string t) := Beh.cell d0 hbW
        have u1 : ∀ u : Beh W, u.w.cell? ⟨b, off + k * 2 + 1, none⟩ = some (.int .i64 m) := Beh.cell d1 hbW
        have v0 : ∀ u : Beh W, u.w.cell? ⟨wr.heap.size, 0, none⟩ = some (.string t) := Beh.cell e0 hwW
        have v1 : ∀ u : Beh W, u.w.cell? ⟨wr.heap.size, 1, none⟩ = some (.int .i64 m) := Beh.cell e1 hwW
        have hgW : g ≤ W.heap.size := by have := hB.size; rw [hg] at this; omega
        rcases Nat.eq_zero_or_pos k with hk0 | hk0
        · have hgt0 : decide ((0 : Int) < (k : Int)) = false := decide_eq_false (by omega)
          have hgt1 : decide (0 < k) = false := decide_eq_false (by omega)
          have HN := Lib.hid (asc_first hA.out (by rw [ht, hm, hv]) hk0)
          have HV := Lib.hid hv
          have HCELL := Lib.hid hcell
          clear ht hm hv hcell hk0
          cases v
          · go_wp2_with fail
            refine wp_region_below (by kernel_rfl) (by kernel_rfl) ?_
            repeat (go_big_quiet_step ((go_at_call 96; exact Calls.beh (pileValid_as t m false _ hst HV.out))))
            refine wpQuiet_nil ?_
            rintro _ ⟨⟨w1, hb1⟩, rfl⟩
            have hB1 := hBW.trans (hb1.mono hgW)
            go_wp2
            go_ret
            exact ⟨ret_bool (pilesB_no HN.out hlt H1.out).symm, hg.symm ▸ hB1⟩
          · go_wp2_with fail
            refine wp_region_below (by kernel_rfl) (by kernel_rfl) ?_
            repeat (go_big_quiet_step ((go_at_call 96; exact Calls.beh (pileValid_as t m true _ hst HV.out))))
            refine wpQuiet_nil ?_
            rintro _ ⟨⟨w1, hb1⟩, rfl⟩
            have hB1 := hBW.trans (hb1.mono hgW)
            go_wp2
            go_roundw
            case rel => exact ⟨k + 1, by omega, by go_num, HN, hB1⟩
            case measure => simp [intOf]; omega
        · obtain ⟨j, rfl⟩ : ∃ j, k = j + 1 := ⟨k - 1, by omega⟩
          obtain ⟨t', ht'⟩ : ∃ t', tAt ps j = t' := ⟨_, rfl⟩
          obtain ⟨m', hm'⟩ : ∃ m', mAt ps j = m' := ⟨_, rfl⟩
          obtain ⟨u, hu⟩ : ∃ u, tl t' t = u := ⟨_, rfl⟩
          obtain ⟨r, hr⟩ : ∃ r, cmpP (t', m') (t, m) = r := ⟨_, rfl⟩
          have c2 : W.cell? ⟨b, off + j * 2, none⟩ = some (.string t') := by rw [hBW.cell (p := ⟨b, off + j * 2, none⟩) hbg, (hcell j (by omega)).1, ht']
          have c3 : W.cell? ⟨b, off + j * 2 + 1, none⟩ = some (.int .i64 m') := by rw [hBW.cell (p := ⟨b, off + j * 2 + 1, none⟩) hbg, (hcell j (by omega)).2, hm']
          have u2 : ∀ u : Beh W, u.w.cell? ⟨b, off + j * 2, none⟩ = some (.string t') := Beh.cell c2 hbW
          have u3 : ∀ u : Beh W, u.w.cell? ⟨b, off + j * 2 + 1, none⟩ = some (.int .i64 m') := Beh.cell c3 hbW
          have hgt0 : decide ((0 : Int) < (j : Int) + 1) = true := decide_eq_true (by omega)
          have hgt1 : decide (0 < j + 1) = true := decide_eq_true (by omega)
          have hji : (j : Int) < (len : Int) := by omega
          have HN := Lib.hid (asc_next hA.out (by rw [ht, hm, hv]) (by rw [ht', ht, hu]))
          have HR := Lib.hid hr
          have HGE : Hid (decide ((0 : Int) ≤ r) = !u) := by rw [Hid, ← hr, ← hu]; exact cmp_neg (t', m') (t, m)
          have HV := Lib.hid hv
          have HCELL := Lib.hid hcell
          clear ht ht' hm hm' hv hu hr hcell
          cases v
          · go_wp2_with fail
            refine wp_region_below (by kernel_rfl) (by kernel_rfl) ?_
            repeat (go_big_quiet_step ((go_at_call 96; exact Calls.beh (pileValid_as t m false _ hst HV.out))))
            refine wpQuiet_nil ?_
            rintro _ ⟨⟨w1, hb1⟩, rfl⟩
            have hB1 := hBW.trans (hb1.mono hgW)
            go_wp2
            go_ret
            exact ⟨ret_bool (pilesB_no HN.out hlt H1.out).symm, hg.symm ▸ hB1⟩
          · go_wp2_with fail
            refine wp_region_below (by kernel_rfl) (by kernel_rfl) ?_
            repeat (go_big_quiet_step ((first | (go_at_call 96; exact Calls.beh (pileValid_as t m true _ hst HV.out)) | (go_at_call 97; exact Calls.beh (compare_as t' m' t m r _ HR.out)))))
            refine wpQuiet_nil ?_
            rintro _ ⟨⟨w1, hb1⟩, rfl⟩
            have hB1 := hBW.trans (hb1.mono hgW)
            cases u
            · have hge : decide ((0 : Int) ≤ r) = true := HGE.out
              simp only [hge]
              go_wp2
              go_ret
              exact ⟨ret_bool (pilesB_no HN.out hlt H1.out).symm, hg.symm ▸ hB1⟩
            · have hge : decide ((0 : Int) ≤ r) = false := HGE.out
              simp only [hge]
              go_wp2
              go_roundw
              case rel => exact ⟨j + 1 + 1, by omega, by go_num, HN, hB1⟩
              case measure => simp [intOf]; omega
      · obtain rfl : k = len := by omega
        have hyes := pilesB_yes hA.out H1.out
        rw [decide_eq_true hl12] at hyes
        have HY := Lib.hid hyes; clear hyes
        go_wp2
        go_ret
        exact ⟨ret_bool HY.out.symm, hg.symm ▸ hB⟩

end Go.Proofs.Ytojfpnjnbpeniaa
