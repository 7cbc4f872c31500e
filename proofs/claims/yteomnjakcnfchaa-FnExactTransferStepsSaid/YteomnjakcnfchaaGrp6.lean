/-
  A slice of piles of the call's own, sorted by the library: what it holds then. No function of the seat but Pile.compare.
  impl.sortedPiles: the piles of a map from texts to numbers, in the order of their texts, in memory of its own.
  impl.PilesValid: for every slice of piles with texts of at most 1048600 bytes; it writes into no memory that was there.
  spec.l3Total, spec.PilesTotal, impl.PilesTotal: for lists of piles with texts of at most 1048600 bytes.
  impl.PilesMerge and impl.PilesAdd: for lists of piles with texts of at most 1048600 bytes; what they return is memory of their own.
  impl.PilesAdd: for lists of piles with texts of at most 1048600 bytes; what it returns is memory of its own.
  spec.BallotText and impl.BallotText answer alike: for every ballot of at most 1048600 ints; neither writes into memory that was there.
  impl.turnedText and spec.l3Turn: two candidates of a ballot are exchanged.
  impl.PilesTurn: for lists of piles with texts of at most 1048600 bytes; what it returns is memory of its own.
  spec.l3Turn and spec.PilesTurn: for lists of piles with texts of at most 1048600 bytes; what they return is memory of their own.
  What the drawn statements of piles share.
-/
import Derived.Test.YteomnjakcnfchaaGrp5
import Derived.Test.YteomnjakcnfchaaGrp2
import Derived.Shelf.SlSortCmp.WholeK
import Derived.Test.YteomnjakcnfchaaPutL
import Derived.Maps.RangeWalk
import Derived.Maps.OwnSet
import Derived.Maps.Ext
import Derived.Sort.KeysCollected
import Derived.Maps.OwnOps
import Derived.Test.YteomnjakcnfchaaGrp3
import Derived.Test.YteomnjakcnfchaaGrp4
import Derived.Deep.RegionHeld3
import Derived.Deep.RegionWith
namespace Go.Proofs.Yteomnjakcnfchaa
open Go.RowKit Go.Shelf Go.Sort

def encP (p : Pl) : List Value := [.string p.1, .int .i64 p.2]
theorem flat_get (ps : List Pl) : ∀ t, t < ps.length * 2 → (flatK encP 2 ps.toArray)[t]! = (cellsP ps)[t]?.getD undef := by
  intro t ht
  rw [get_flatK encP 2 ps.toArray t (by simpa using ht)]
  have hi : t / 2 < ps.length := by omega
  have e : ps.toArray[t / 2]! = (tAt ps (t / 2), mAt ps (t / 2)) := by
    rw [getElem!_pos ps.toArray (t / 2) (by simpa using hi)]
    simp [tAt, mAt, hi]
  rw [e]
  rcases Nat.mod_two_eq_zero_or_one t with h | h
  · have e2 : (cellsP ps)[t]? = some (.string (tAt ps (t / 2))) := by
      have := cellsP_text ps (t / 2) hi
      rwa [show t / 2 * 2 = t by omega] at this
    rw [h, e2]; rfl
  · have e2 : (cellsP ps)[t]? = some (.int .i64 (mAt ps (t / 2))) := by
      have := cellsP_many ps (t / 2) hi
      rwa [show t / 2 * 2 + 1 = t by omega] at this
    rw [h, e2]; rfl
theorem flat_cells (ps : List Pl) : flatK encP 2 ps.toArray = (cellsP ps).toArray := by
  refine ext_get! (by simp [cellsP_length]) fun t ht => ?_
  have ht' : t < ps.length * 2 := by simpa using ht
  rw [flat_get ps t ht']
  have hl : t < (cellsP ps).length := by rw [cellsP_length]; exact ht'
  rw [getElem!_pos (cellsP ps).toArray t (by simpa using hl)]
  simp [hl]
theorem holdsP_of_block {w : World} {g : Nat} {cur : Array Value} {e : TypeId} {ps : List Pl} (hb : w.heap[g]? = some (.cells cur e (0, 0))) (ht : cur.toList.take (ps.length * 2) = cellsP ps) : HoldsK encP 2 w g 0 ps.toArray := by
  unfold HoldsK
  rw [flat_cells]
  intro j hj
  have hj' : j < (cellsP ps).length := by simpa using hj
  have hj2 : j < ps.length * 2 := by rw [cellsP_length] at hj'; exact hj'
  refine ⟨?_, by simp [World.frozen?, hb]⟩
  have h1 : (cur.toList.take (ps.length * 2))[j]? = (cellsP ps)[j]? := by rw [ht]
  rw [List.getElem?_take_of_lt hj2] at h1
  simp only [World.cell?, hb, Nat.zero_add]
  simp only [Option.isSome_none, Bool.false_eq_true, if_false]
  rw [← Array.getElem?_toList, h1]
  simp [hj']
theorem heap_sortedP {w : World} {g n : Nat} {os : Array Obj} {cur : Array Value} {e : TypeId} {fr : Nat × Nat} (d : Array Pl) (hb : w.heap[g]? = some (.cells cur e fr)) :
    (sortWorldK encP 2 w g 0 n d os).heap[g]? = some (.cells (putCells id 0 (flatK encP 2 d) cur) e fr) := by
  have hg : g < w.heap.size := (Array.getElem?_eq_some_iff.1 hb).1
  unfold sortWorldK putRowK
  rw [heap_grow_old _ _ (by simpa using hg)]
  simp [putRow, mapBlock, Sort.ahead, Array.getElem?_modify, hb, onCells]
theorem grownBy_sortedP {w : World} {g n : Nat} {os : Array Obj} (d : Array Pl) : w.grownBy (sortWorldK encP 2 w g 0 n d os) (some g) := by
  refine ⟨rfl, rfl, rfl, by simp [sortWorldK, putRowK], fun k hk hne => ?_⟩
  unfold sortWorldK putRowK
  rw [heap_grow_old _ _ (by simpa using hk)]
  have : g ≠ k := fun e => hne (by rw [e])
  simp [putRow, mapBlock, Sort.ahead, Array.getElem?_modify, this]
theorem take_putP (cur : Array Value) (ts : List Pl) (h : ts.length * 2 ≤ cur.size) : (putCells id 0 (flatK encP 2 ts.toArray) cur).toList.take (ts.length * 2) = cellsP ts := by
  rw [flat_cells]
  apply List.ext_getElem?
  intro j
  by_cases hj : j < ts.length * 2
  · have hl : j < (cellsP ts).length := by rw [cellsP_length]; exact hj
    rw [List.getElem?_take_of_lt hj, Array.getElem?_toList]
    simp [putCells, hl, show j < cur.size by omega]
  · rw [List.getElem?_take_eq_none (by omega), List.getElem?_eq_none (by rw [cellsP_length]; omega)]
/-- BEHIND THE SORT the same slice owns the sorted piles. -/
theorem owns_sortedP {w : World} {base g cap n : Nat} {e : TypeId} {os : Array Obj} {ps ts : List Pl} {len : Nat} (h : w.ownsRow base e 2 (.slice (some ⟨g, 0, none⟩) len cap) len (cellsP ps)) (hl : ts.length = len) :
    (sortWorldK encP 2 w g 0 n ts.toArray os).ownsRow base e 2 (.slice (some ⟨g, 0, none⟩) len cap) len (cellsP ts) := by
  rcases h.2 with ⟨e0, _⟩ | ⟨g', cap', cur, e1, hbase, hb, h1, h2, h3, h4⟩
  · cases e0
  · cases e1
    refine ⟨by rw [cellsP_length, hl], .inr ⟨g, cap, _, rfl, hbase, heap_sortedP _ hb, h1, h2, by simp [putCells, h3], ?_⟩⟩
    rw [← hl]
    exact take_putP cur ts (by omega)
theorem holdsP_of_owns {w : World} {base g cap : Nat} {e : TypeId} {ps : List Pl} {len : Nat} (h : w.ownsRow base e 2 (.slice (some ⟨g, 0, none⟩) len cap) len (cellsP ps)) (hl : ps.length = len) : HoldsK encP 2 w g 0 ps.toArray := by
  rcases h.2 with ⟨e0, _⟩ | ⟨g', cap', cur, e1, hbase, hb, h1, h2, h3, h4⟩
  · cases e0
  · cases e1
    exact holdsP_of_block hb (by rw [hl]; exact h4)
theorem cmpLaysP (blk off size : Nat) (w : World) : CmpLays Try.prog 92 #[] encP 2 cmpP blk off size w :=
  fun _ _ _ _ x y => compare_any x y _
theorem ltOf_P : Go.Proofs.ltOf cmpP = ltP := by
  funext x y
  unfold Go.Proofs.ltOf
  exact lt_cmpP x y

end Go.Proofs.Yteomnjakcnfchaa

namespace Go.Proofs.Yteomnjakcnfchaa
open Go.RowKit Go.Maps Go.Sort

theorem lawS : Keyed Try.prog 9 := string_keyed Try.underlying9
theorem size_le {w : World} {P : Program} {k : TypeId} {R : Value → Option (DataW Unit × List MemPlace)} {b n : Nat} {D : DataW Unit} (h : w.ownsMap P k R b n D) : Maps.size D ≤ n := by
  obtain ⟨es, clock, _, _, hn, rfl⟩ := h
  rw [Maps.size_eq, length_sorted]
  simpa using hn
theorem enc_text (x : List UInt8) : encStr x = .string ⟨x.toArray⟩ := rfl
theorem kT_list (x : List UInt8) : kT ⟨x.toArray⟩ = .string x := by simp [kT]
theorem rowP_ne_iter {P : Program} {k : TypeId} {R : Value → Option (DataW Unit × List MemPlace)} {w : World} {b r n : Nat} {D : DataW Unit} {left : Lit → Bool} {cnt base : Nat} {e : TypeId} {size : Nat} {v : Value} {m : Nat} {xs : List Value}
    (h : w.ownsRow base e size v m xs) (hr : w.ranges P k R b r n D left cnt) : some r ≠ v.ownBlock := by
  obtain ⟨_, _, _, _, _, _, _, _, _, hit, _⟩ := hr
  rcases h.2 with ⟨rfl, _⟩ | ⟨g, cap, cur, rfl, _, hb, _⟩
  · simp [Value.ownBlock]
  · intro e1
    have : r = g := by simpa [Value.ownBlock] using e1
    subst this
    rw [hit] at hb
    cases hb
theorem rowP_ne_low {w : World} {base : Nat} {e : TypeId} {size : Nat} {v : Value} {n : Nat} {xs : List Value} (h : w.ownsRow base e size v n xs) {b : Nat} (hb : b < base) : some b ≠ v.ownBlock := fun e1 => by
  have := (h.lt b e1.symm).1
  omega

theorem not_nil' {w : World} {base n size : Nat} {e : TypeId} {v : Value} {xs : List Value} (h : w.ownsRow base e size v n xs) (hn : v ≠ .slice none 0 0) : ∃ g c, v = .slice (some ⟨g, 0, none⟩) n c := by
  rcases h.2 with ⟨e0, _⟩ | ⟨g, c, _, e, _⟩
  · exact absurd e0 hn
  · exact ⟨g, c, e⟩

end Go.Proofs.Yteomnjakcnfchaa

namespace Go.Proofs.Yteomnjakcnfchaa
open Go.RowKit

set_option maxRecDepth 100000 in
set_option maxHeartbeats 2000000 in
/-- **impl.PilesValid** answers as the model does. -/
theorem implPiles_any (a : Option Addr) (len cap : Nat) (ps : List Pl) (w : World) (h : IsPiles w a len cap ps) (hs : Small ps) :
    Calls Try.prog 57 #[.slice a len cap] w fun e w' => e = .returned (.bool (pilesB ps)) ∧ Below w.heap.size w w' := by
  obtain ⟨h1, h2, h3, h4⟩ := h
  have H1 := Lib.hid h1; clear h1
  have H4 := Lib.hid h4; clear h4
  have HS := Lib.hid hs; clear hs
  obtain ⟨g, hg⟩ : ∃ g, w.heap.size = g := ⟨_, rfl⟩
  by_cases hlong : 12 < len
  · have hgt : decide ((12 : Int) < (len : Int)) = true := decide_eq_true (by omega)
    have HE : Hid (pilesB ps = false) := by
      unfold Hid pilesB
      rw [H1.out, decide_eq_false (by omega)]; simp
    go_enter Try.func57, Try.ntmps57
    go_wp2
    go_ret
    exact ⟨ret_bool HE.out.symm, Below.refl _ _⟩
  · have hgt : decide ((12 : Int) < (len : Int)) = false := decide_eq_false (by omega)
    have hl12 : (len : Int) ≤ 12 := by omega
    go_enter Try.func57, Try.ntmps57
    go_wp2
    go_loopw [10] (fun i wr => ∃ k : Nat, k ≤ len ∧ i = .int .i64 k ∧ Hid (ascTo ps k = true) ∧ Below g w wr) (fun i _ => len - (intOf i).toNat)
    case atStart => exact ⟨0, Nat.zero_le _, rfl, rfl, Below.refl _ _⟩
    case round =>
      obtain ⟨k, hk, rfl, hA, hB⟩ := hrel
      by_cases hlt : k < len
      · obtain ⟨b, off, rfl, hb, hcell⟩ := H4.out (by omega)
        obtain ⟨t, ht⟩ : ∃ t, tAt ps k = t := ⟨_, rfl⟩
        obtain ⟨m, hm⟩ : ∃ m, mAt ps k = m := ⟨_, rfl⟩
        obtain ⟨v, hv⟩ : ∃ v, pileB t m = v := ⟨_, rfl⟩
        have hst : t.size ≤ 1048600 := by rw [← ht]; exact HS.out k
        have hbg : b < g := by rw [← hg]; exact hb
        have c0 : wr.cell? ⟨b, off + k * 2, none⟩ = some (.string t) := by rw [hB.cell (p := ⟨b, off + k * 2, none⟩) hbg, (hcell k hlt).1, ht]
        have c1 : wr.cell? ⟨b, off + k * 2 + 1, none⟩ = some (.int .i64 m) := by rw [hB.cell (p := ⟨b, off + k * 2 + 1, none⟩) hbg, (hcell k hlt).2, hm]
        have hbr : b < wr.heap.size := Nat.lt_of_lt_of_le (hg.symm ▸ hbg) hB.size
        obtain ⟨W, hW⟩ : ∃ W, wr.alloc (.cells #[.string t, .int .i64 m] 54) = W := ⟨_, rfl⟩
        have hBW : Below g w W := by rw [← hW]; exact hB.alloc (hg ▸ hB.size) _
        have hbW : b < W.heap.size := by rw [← hW]; simp; omega
        have d0 : W.cell? ⟨b, off + k * 2, none⟩ = some (.string t) := by rw [← hW, World.cell?_alloc_past _ _ _ hbr]; exact c0
        have d1 : W.cell? ⟨b, off + k * 2 + 1, none⟩ = some (.int .i64 m) := by rw [← hW, World.cell?_alloc_past _ _ _ hbr]; exact c1
        have e0 : W.cell? ⟨wr.heap.size, 0, none⟩ = some (.string t) := by rw [← hW]; exact World.cell?_alloc_new wr _ _ 0
        have e1 : W.cell? ⟨wr.heap.size, 1, none⟩ = some (.int .i64 m) := by rw [← hW]; exact World.cell?_alloc_new wr _ _ 1
        have hwW : wr.heap.size < W.heap.size := by rw [← hW]; simp
        have u0 : ∀ u : Beh W, u.w.cell? ⟨b, off + k * 2, none⟩ = some (.string t) := Beh.cell d0 hbW
        have u1 : ∀ u : Beh W, u.w.cell? ⟨b, off + k * 2 + 1, none⟩ = some (.int .i64 m) := Beh.cell d1 hbW
        have v0 : ∀ u : Beh W, u.w.cell? ⟨wr.heap.size, 0, none⟩ = some (.string t) := Beh.cell e0 hwW
        have v1 : ∀ u : Beh W, u.w.cell? ⟨wr.heap.size, 1, none⟩ = some (.int .i64 m) := Beh.cell e1 hwW
        have hgW : g ≤ W.heap.size := by have := hB.size; rw [hg] at this; omega
        rcases Nat.eq_zero_or_pos k with hk0 | hk0
        · have hgt0 : decide ((0 : Int) < (k : Int)) = false := decide_eq_false (by omega)
          have hgt1 : decide (0 < k) = false := decide_eq_false (by omega)
          have HN := Lib.hid (asc_first hA.out (by rw [ht, hm, hv]) hk0)
          have HV := Lib.hid hv
          have HCELL := Lib.hid hcell
          clear ht hm hv hcell hk0
          cases v
          · go_wp2_with fail
            refine wp_region_below (by kernel_rfl) (by kernel_rfl) ?_
            repeat (go_big_quiet_step ((go_at_call 91; exact Calls.beh (pileValid_as t m false _ hst HV.out))))
            refine wpQuiet_nil ?_
            rintro _ ⟨⟨w1, hb1⟩, rfl⟩
            have hB1 := hBW.trans (hb1.mono hgW)
            go_wp2
            go_ret
            exact ⟨ret_bool (pilesB_no HN.out hlt H1.out).symm, hg.symm ▸ hB1⟩
          · go_wp2_with fail
            refine wp_region_below (by kernel_rfl) (by kernel_rfl) ?_
            repeat (go_big_quiet_step ((go_at_call 91; exact Calls.beh (pileValid_as t m true _ hst HV.out))))
            refine wpQuiet_nil ?_
            rintro _ ⟨⟨w1, hb1⟩, rfl⟩
            have hB1 := hBW.trans (hb1.mono hgW)
            go_wp2
            go_roundw
            case rel => exact ⟨k + 1, by omega, by go_num, HN, hB1⟩
            case measure => simp [intOf]; omega
        · obtain ⟨j, rfl⟩ : ∃ j, k = j + 1 := ⟨k - 1, by omega⟩
          obtain ⟨t', ht'⟩ : ∃ t', tAt ps j = t' := ⟨_, rfl⟩
          obtain ⟨m', hm'⟩ : ∃ m', mAt ps j = m' := ⟨_, rfl⟩
          obtain ⟨u, hu⟩ : ∃ u, tl t' t = u := ⟨_, rfl⟩
          obtain ⟨r, hr⟩ : ∃ r, cmpP (t', m') (t, m) = r := ⟨_, rfl⟩
          have c2 : W.cell? ⟨b, off + j * 2, none⟩ = some (.string t') := by rw [hBW.cell (p := ⟨b, off + j * 2, none⟩) hbg, (hcell j (by omega)).1, ht']
          have c3 : W.cell? ⟨b, off + j * 2 + 1, none⟩ = some (.int .i64 m') := by rw [hBW.cell (p := ⟨b, off + j * 2 + 1, none⟩) hbg, (hcell j (by omega)).2, hm']
          have u2 : ∀ u : Beh W, u.w.cell? ⟨b, off + j * 2, none⟩ = some (.string t') := Beh.cell c2 hbW
          have u3 : ∀ u : Beh W, u.w.cell? ⟨b, off + j * 2 + 1, none⟩ = some (.int .i64 m') := Beh.cell c3 hbW
          have hgt0 : decide ((0 : Int) < (j : Int) + 1) = true := decide_eq_true (by omega)
          have hgt1 : decide (0 < j + 1) = true := decide_eq_true (by omega)
          have hji : (j : Int) < (len : Int) := by omega
          have HN := Lib.hid (asc_next hA.out (by rw [ht, hm, hv]) (by rw [ht', ht, hu]))
          have HR := Lib.hid hr
          have HGE : Hid (decide ((0 : Int) ≤ r) = !u) := by rw [Hid, ← hr, ← hu]; exact cmp_neg (t', m') (t, m)
          have HV := Lib.hid hv
          have HCELL := Lib.hid hcell
          clear ht ht' hm hm' hv hu hr hcell
          cases v
          · go_wp2_with fail
            refine wp_region_below (by kernel_rfl) (by kernel_rfl) ?_
            repeat (go_big_quiet_step ((go_at_call 91; exact Calls.beh (pileValid_as t m false _ hst HV.out))))
            refine wpQuiet_nil ?_
            rintro _ ⟨⟨w1, hb1⟩, rfl⟩
            have hB1 := hBW.trans (hb1.mono hgW)
            go_wp2
            go_ret
            exact ⟨ret_bool (pilesB_no HN.out hlt H1.out).symm, hg.symm ▸ hB1⟩
          · go_wp2_with fail
            refine wp_region_below (by kernel_rfl) (by kernel_rfl) ?_
            repeat (go_big_quiet_step ((first | (go_at_call 91; exact Calls.beh (pileValid_as t m true _ hst HV.out)) | (go_at_call 92; exact Calls.beh (compare_as t' m' t m r _ HR.out)))))
            refine wpQuiet_nil ?_
            rintro _ ⟨⟨w1, hb1⟩, rfl⟩
            have hB1 := hBW.trans (hb1.mono hgW)
            cases u
            · have hge : decide ((0 : Int) ≤ r) = true := HGE.out
              simp only [hge]
              go_wp2
              go_ret
              exact ⟨ret_bool (pilesB_no HN.out hlt H1.out).symm, hg.symm ▸ hB1⟩
            · have hge : decide ((0 : Int) ≤ r) = false := HGE.out
              simp only [hge]
              go_wp2
              go_roundw
              case rel => exact ⟨j + 1 + 1, by omega, by go_num, HN, hB1⟩
              case measure => simp [intOf]; omega
      · obtain rfl : k = len := by omega
        have hyes := pilesB_yes hA.out H1.out
        rw [decide_eq_true hl12] at hyes
        have HY := Lib.hid hyes; clear hyes
        go_wp2
        go_ret
        exact ⟨ret_bool HY.out.symm, hg.symm ▸ hB⟩

end Go.Proofs.Yteomnjakcnfchaa

namespace Go.Proofs.Yteomnjakcnfchaa
open Go.RowKit

theorem sumL_app (a b : List Pl) : sumL (a ++ b) = sumL a + sumL b := by
  induction a with
  | nil => simp [sumL]
  | cons p a ih => rw [List.cons_append, sumL_cons, sumL_cons, ih]; omega
theorem sum_take {ps : List Pl} {k : Nat} (h : k < ps.length) : sumL (ps.take (k + 1)) = sumL (ps.take k) + mAt ps k := by
  rw [take_one h, sumL_app]; simp [sumL]
theorem sum_bound {ps : List Pl} (h : ∀ i, 0 ≤ mAt ps i ∧ mAt ps i ≤ 1000000) (k : Nat) (hk : k ≤ ps.length) : 0 ≤ sumL (ps.take k) ∧ sumL (ps.take k) ≤ 1000000 * (k : Int) := by
  induction k with
  | zero => simp [sumL]
  | succ k ih =>
    have := ih (by omega)
    rw [sum_take (by omega)]
    have := h k
    omega
theorem implPiles_as (a : Option Addr) (len cap : Nat) (ps : List Pl) (v : Bool) (w : World) (h : IsPiles w a len cap ps) (hs : Small ps) (hv : pilesB ps = v) :
    Calls Try.prog 57 #[.slice a len cap] w fun e w' => e = .returned (.bool v) ∧ Below w.heap.size w w' := by subst hv; exact implPiles_any a len cap ps w h hs

set_option maxRecDepth 100000 in
set_option maxHeartbeats 2000000 in
/-- **spec.l3Total**. -/
theorem l3Total_any (a : Option Addr) (len cap : Nat) (ps : List Pl) (w : World) (h : IsPiles w a len cap ps) (hm : ∀ i, 0 ≤ mAt ps i ∧ mAt ps i ≤ 1000000) :
    Calls Try.prog 79 #[.slice a len cap] w fun e w' => e = .returned (.int .i64 (sumL ps)) ∧ w = w' := by
  have HI := Lib.hid h
  have H1 := Lib.hid h.1
  have HM := Lib.hid hm
  have hmax := h.2.2.1
  clear h hm
  go_enter Try.func79, Try.ntmps79
  go_wp2
  go_loop [3, 4] (fun n i => ∃ k : Nat, k ≤ len ∧ i = .int .i64 k ∧ n = .int .i64 (sumL (ps.take k))) (fun _ i => len - (intOf i).toNat)
  case atStart => exact ⟨0, Nat.zero_le _, rfl, rfl⟩
  case round =>
    obtain ⟨k, hk, rfl, rfl⟩ := hrel
    obtain ⟨s, hs⟩ : ∃ s, sumL (ps.take k) = s := ⟨_, rfl⟩
    have hb := sum_bound HM.out k (by rw [H1.out]; exact hk)
    by_cases hlt : k < len
    · obtain ⟨b, off, rfl, _, _, c1⟩ := HI.out.piles hlt
      obtain ⟨m, hm⟩ : ∃ m, mAt ps k = m := ⟨_, rfl⟩
      have hst := sum_take (ps := ps) (k := k) (by rw [H1.out]; exact hlt)
      have hmb := HM.out k
      rw [hm] at c1 hmb hst
      rw [hs] at hb hst ⊢
      have HST := Lib.hid hst
      clear hst hm hs
      have hw1 : IntKind.i64.wrap (s + m) = s + m := IntWalk.i64_in _ (by omega)
      go_wp2
      refine ⟨⟨k + 1, by omega, by go_num, by rw [HST.out]⟩, ?_⟩
      simp [intOf]; omega
    · obtain rfl : k = len := by omega
      have hall : sumL (ps.take k) = sumL ps := by rw [List.take_of_length_le (by rw [H1.out]; omega)]
      rw [hall]
      clear hall hs hb
      go_wp2
      go_ret
      exact ⟨rfl, rfl⟩

set_option maxRecDepth 100000 in
set_option maxHeartbeats 2000000 in
/-- **impl.PilesTotal**. -/
theorem implTotal_as (a : Option Addr) (len cap : Nat) (ps : List Pl) (n : Int) (w : World) (h : IsPiles w a len cap ps) (hs : Small ps) (hn : totalL ps = n) :
    Calls Try.prog 24 #[.slice a len cap] w fun e w' => e = .returned (.int .i64 n) ∧ Below w.heap.size w w' := by
  have HI := Lib.hid h
  have HS := Lib.hid hs
  have HN := Lib.hid hn
  have H1 := Lib.hid h.1
  clear h hs hn
  obtain ⟨G, hG⟩ : ∃ G, w.heap.size = G := ⟨_, rfl⟩
  cases hv : pilesB ps
  · have e : Hid (n = -1) := by rw [Hid, ← HN.out, totalL, hv]; rfl
    have HV := Lib.hid hv; clear hv
    go_enter Try.func24, Try.ntmps24
    go_wp2_with fail
    refine (implPiles_as _ len cap ps false _ HI.out HS.out HV.out).mono ?_
    rintro e1 w1 ⟨rfl, hb1⟩
    go_wp2
    go_ret
    exact ⟨ret_int e.out.symm, hb1⟩
  · have e : Hid (sumL ps = n) := by rw [Hid, ← HN.out, totalL, hv]; rfl
    have HM := Lib.hid (mAt_wide (mAt_valid hv))
    have hl12 : len ≤ 12 := by have := (pilesB_pos hv).2.2.2.2; rw [H1.out] at this; exact this
    have HV := Lib.hid hv; clear hv
    go_enter Try.func24, Try.ntmps24
    go_wp2_with fail
    refine (implPiles_as _ len cap ps true _ HI.out HS.out HV.out).mono ?_
    rintro e1 w1 ⟨rfl, hb1⟩
    have B1 := Lib.hid (hG ▸ hb1); clear hb1
    go_wp2
    go_loopw [3, 11] (fun s i wr => ∃ k : Nat, k ≤ len ∧ i = .int .i64 k ∧ s = .int .i64 (sumL (ps.take k)) ∧ Below G w wr) (fun _ i _ => len - (intOf i).toNat)
    case atStart => exact ⟨0, Nat.zero_le _, rfl, rfl, B1.out⟩
    case round =>
      obtain ⟨k, hk, rfl, rfl, hB⟩ := hrel
      obtain ⟨s, hs⟩ : ∃ s, sumL (ps.take k) = s := ⟨_, rfl⟩
      have hb := sum_bound HM.out k (by rw [H1.out]; exact hk)
      have hBw : Below w.heap.size w wr := hG.symm ▸ hB
      by_cases hlt : k < len
      · obtain ⟨b, off, rfl, hb', c0, c1⟩ := (HI.out.below hBw).piles hlt
        obtain ⟨m, hm⟩ : ∃ m, mAt ps k = m := ⟨_, rfl⟩
        have hst := sum_take (ps := ps) (k := k) (by rw [H1.out]; exact hlt)
        have hmb := HM.out k
        rw [hm] at c1 hmb hst
        rw [hs] at hb hst ⊢
        have HST := Lib.hid hst
        clear hst hm hs
        have hw1 : IntKind.i64.wrap (s + m) = s + m := IntWalk.i64_in _ (by omega)
        go_wp2
        go_roundw
        case rel => exact ⟨k + 1, by omega, by go_num, by rw [HST.out], hB.alloc (hG ▸ hBw.size) _⟩
        case measure => simp [intOf]; omega
      · obtain rfl : k = len := by omega
        have hall : sumL (ps.take k) = n := by rw [List.take_of_length_le (by rw [H1.out]; omega)]; exact e.out
        rw [hall]
        clear hall hs hb
        go_wp2
        go_ret
        exact ⟨rfl, hBw⟩

end Go.Proofs.Yteomnjakcnfchaa

namespace Go.Proofs.Yteomnjakcnfchaa
open Go.RowKit Go.Maps

theorem zeroE (w : World) : (zeroValue 3).run Try.prog w = .ok (.int .i64 0) w := by kernel_rfl
theorem merged_eq {ts xs ys : List Pl} (h : Asc ts ∧ (∀ u, tot ts u = tot (xs ++ ys) u) ∧ ∀ q ∈ ts, ∃ p ∈ xs ++ ys, p.1 = q.1) (hx : pilesB xs = true) (hy : pilesB ys = true) : ts = mergeL xs ys := by
  have px := pilesB_pos hx
  have py := pilesB_pos hy
  refine piles_ext h.1 (asc_merge px.1 _) (fun q hq => ?_) (pos_merge px.2.1 py.2.1) (fun u => by rw [h.2.1, tot_app, tot_merge])
  rw [← tot_mem h.1 q hq, h.2.1]
  refine tot_pos (fun p hp => ?_) (h.2.2 q hq)
  rcases List.mem_append.1 hp with hp | hp
  · exact px.2.1 p hp
  · exact py.2.1 p hp
/-- The piles before list number r, of two. -/
def before2 (xs : List Pl) (r : Nat) (ys : List Pl) : List Pl := if r = 0 then [] else if r = 1 then xs else xs ++ ys
theorem tot_small {xs ys : List Pl} {r j : Nat} {zs : List Pl} (hx : pilesB xs = true) (hy : pilesB ys = true) (hz : zs = xs ∨ zs = ys) (u : ByteArray) : 0 ≤ tot (before2 xs r ys ++ zs.take j) u ∧ tot (before2 xs r ys ++ zs.take j) u ≤ 1000000 := by
  have px := pilesB_pos hx
  have py := pilesB_pos hy
  have hin : ∀ p ∈ before2 xs r ys, p ∈ xs ∨ p ∈ ys := fun p hp => by
    unfold before2 at hp
    split at hp
    · cases hp
    · split at hp
      · exact .inl hp
      · exact List.mem_append.1 hp
  have hz1 : ∀ p ∈ zs.take j, p ∈ xs ∨ p ∈ ys := fun p hp => by
    have := List.mem_of_mem_take hp
    rcases hz with e | e
    · rw [e] at this; exact .inl this
    · rw [e] at this; exact .inr this
  have hm : ∀ p ∈ before2 xs r ys ++ zs.take j, 0 ≤ p.2 ∧ p.2 ≤ 99 := fun p hp => by
    have : p ∈ xs ∨ p ∈ ys := (List.mem_append.1 hp).elim (hin p) (hz1 p)
    rcases this with h | h
    · have h1 := px.2.1 p h; have h2 := px.2.2.1 p h; omega
    · have h1 := py.2.1 p h; have h2 := py.2.2.1 p h; omega
  have hb := tot_bound hm u
  have h1 := px.2.2.2.2
  have h2 := py.2.2.2.2
  have h3 : (zs.take j).length ≤ 12 := by
    rw [List.length_take]
    rcases hz with e | e <;> rw [e] <;> omega
  have h4 : (before2 xs r ys).length ≤ 24 := by
    unfold before2
    split
    · simp
    · split
      · omega
      · rw [List.length_append]; omega
  rw [List.length_append] at hb
  omega

theorem look_eq {D : DataW Unit} {ps : List Pl} {t : ByteArray} {s c : Int} (hM : MapIs D ps) (hs : tot ps t = s) (hat : D.atKey (.string t.data.toList) (.lit (.int .i64 0)) = .lit (.int .i64 c)) : c = s := by
  have h1 : D.atKey (kT t) (iL 0) = iL c := hat
  rw [hM.2 t, hs] at h1
  injection h1 with h1
  injection h1 with _ h1
  exact h1.symm

end Go.Proofs.Yteomnjakcnfchaa

namespace Go.Proofs.Yteomnjakcnfchaa
open Go.RowKit Go.Maps

theorem tAt_one (t : ByteArray) (m : Int) : tAt [(t, m)] 0 = t := rfl
theorem mAt_one (t : ByteArray) (m : Int) : mAt [(t, m)] 0 = m := rfl
theorem piles_one (t : ByteArray) (m : Int) : pilesB [(t, m)] = pileB t m := by
  rw [pilesB, show ([(t, m)] : List Pl).length = 0 + 1 from rfl, ascTo_succ, tAt_one, mAt_one]
  simp [ascTo]
theorem join_one (ps : List Pl) (t : ByteArray) (m : Int) : joinB ps [(t, m)] = addB ps t m := by rw [joinB, addB, piles_one]; rfl
theorem joinL_one (ps : List Pl) (t : ByteArray) (m : Int) : joinL ps [(t, m)] = addL ps t m := by rw [joinL, addL, join_one]; rfl
theorem one_piles {w : World} {g : Nat} {t : ByteArray} {m : Int} (hg : g < w.heap.size) (h0 : w.cell? ⟨g, 0, none⟩ = some (.string t)) (h1 : w.cell? ⟨g, 1, none⟩ = some (.int .i64 m)) : IsPiles w (some ⟨g, 0, none⟩) 1 1 [(t, m)] :=
  ⟨rfl, Nat.le_refl _, by omega, fun _ => ⟨g, 0, rfl, hg, fun j hj => by
    obtain rfl : j = 0 := by omega
    exact ⟨h0, h1⟩⟩⟩
theorem Small.one {t : ByteArray} {m : Int} (h : t.size ≤ 1048600) : Small [(t, m)] := Small.of fun p hp => by simp at hp; subst hp; exact h
theorem GaveP.up {w w1 : World} {r : List Pl} {ok : Bool} {e : Ending} {w' : World} (h : GaveP w1 r ok e w') (hb : Below w.heap.size w w1) : GaveP w r ok e w' := by
  obtain ⟨a, cap, he, ho, hB, hn⟩ := h
  exact ⟨a, cap, he, ho.mono hb.size, hb.trans (hB.mono hb.size), hn⟩

end Go.Proofs.Yteomnjakcnfchaa

namespace Go.Proofs.Yteomnjakcnfchaa
open Go.RowKit Go.Shelf

attribute [local go_sem] Oper.semAt_some

end Go.Proofs.Yteomnjakcnfchaa

namespace Go.Proofs.Yteomnjakcnfchaa
open Go.RowKit

/-- The first k are exchanged. -/
def mixed (x y : Int) (zs : List Int) (k : Nat) : List Int := (zs.take k).map (swapC x y) ++ zs.drop k
theorem mixed_zero (x y : Int) (zs : List Int) : mixed x y zs 0 = zs := by simp [mixed]
theorem mixed_all (x y : Int) (zs : List Int) : mixed x y zs zs.length = turnB x y zs := by simp [mixed, turnB]
theorem mixed_length (x y : Int) (zs : List Int) (k : Nat) (hk : k ≤ zs.length) : (mixed x y zs k).length = zs.length := by simp [mixed]; omega
theorem mixed_at (x y : Int) (zs : List Int) (k : Nat) (hk : k < zs.length) : (mixed x y zs k)[k]?.getD 0 = zs[k]?.getD 0 := by
  unfold mixed
  rw [List.getElem?_append_right (by simp; omega)]
  simp [show min k zs.length = k by omega]
theorem mixed_step (x y : Int) (zs : List Int) (k : Nat) (hk : k < zs.length) {z : Int} (hz : zs[k]?.getD 0 = z) : ((mixed x y zs k).map (Value.int .i64)).set k (.int .i64 (swapC x y z)) = (mixed x y zs (k + 1)).map (Value.int .i64) := by
  have e : zs[k] = z := by rw [← hz]; simp [hk]
  unfold mixed
  rw [List.take_succ_eq_append_getElem hk, List.drop_eq_getElem_cons hk, e]
  simp only [List.map_append, List.map_cons, List.map_nil, List.append_assoc, List.cons_append, List.nil_append]
  rw [List.set_append_right _ _ (by simp; omega)]
  simp [show min k zs.length = k by omega]
theorem mixed_keep (x y : Int) (zs : List Int) (k : Nat) (hk : k < zs.length) {z : Int} (hz : zs[k]?.getD 0 = z) (he : swapC x y z = z) : mixed x y zs k = mixed x y zs (k + 1) := by
  have e : zs[k] = z := by rw [← hz]; simp [hk]
  unfold mixed
  rw [List.take_succ_eq_append_getElem hk, List.drop_eq_getElem_cons hk, e]
  simp [he]

end Go.Proofs.Yteomnjakcnfchaa

namespace Go.Proofs.Yteomnjakcnfchaa
open Go.RowKit Go.Maps

theorem Below.grownBy {w w' : World} (h : Below w.heap.size w w') : w.grownBy w' none := ⟨h.os, h.tape, h.output, h.size, fun k hk _ => h.block k hk⟩
/-- The piles, each with its text exchanged. -/
def tps (x y : Int) (ps : List Pl) : List Pl := ps.map fun p => (turnT x y p.1, p.2)
theorem tps_length (x y : Int) (ps : List Pl) : (tps x y ps).length = ps.length := by simp [tps]
theorem tAt_tps {x y : Int} {ps : List Pl} {k : Nat} (h : k < ps.length) : tAt (tps x y ps) k = turnT x y (tAt ps k) := by simp [tAt, tps, h]
theorem mAt_tps {x y : Int} {ps : List Pl} {k : Nat} (h : k < ps.length) : mAt (tps x y ps) k = mAt ps k := by simp [mAt, tps, h]
theorem mem_at {ps : List Pl} {k : Nat} (h : k < ps.length) : (tAt ps k, mAt ps k) ∈ ps := by
  have e : (tAt ps k, mAt ps k) = ps[k] := by simp [tAt, mAt, h]
  rw [e]; exact List.getElem_mem h
theorem tps_new {x y : Int} (hx : 0 ≤ x ∧ x ≤ 4) (hy : 0 ≤ y ∧ y ≤ 4) {ps : List Pl} (hv : pilesB ps = true) {k : Nat} (hk : k < ps.length) : ¬ ∃ p ∈ (tps x y ps).take k, p.1 = tAt (tps x y ps) k := by
  rintro ⟨p, hp, e⟩
  obtain ⟨i, hi, rfl⟩ := List.mem_iff_getElem.1 hp
  have hik : i < k := by have := hi; rw [List.length_take, tps_length] at this; omega
  have hil : i < ps.length := by omega
  have pv := pilesB_pos hv
  rw [tAt_tps hk] at e
  have e1 : ((tps x y ps).take k)[i].1 = turnT x y (tAt ps i) := by simp [tps, tAt, hil]
  rw [e1] at e
  have v1 := pv.2.2.2.1 _ (mem_at hil)
  have v2 := pv.2.2.2.1 _ (mem_at hk)
  have w1 := turnT_twice hx hy v1
  have w2 := turnT_twice hx hy v2
  have e2 : tAt ps i = tAt ps k := by
    have : turnT x y (turnT x y (tAt ps i)) = turnT x y (turnT x y (tAt ps k)) := by rw [e]
    exact w1.symm.trans (this.trans w2)
  exact tl_ne (asc_at pv.1 hik hk) e2
theorem txtB_short (zs : List Int) : (txtB zs).size ≤ zs.length := by
  unfold txtB
  split
  · rw [txtOf_size]; exact Nat.le_refl _
  · exact Nat.zero_le _
theorem turnT_short (x y : Int) (t : ByteArray) : (turnT x y t).size ≤ 5 := by
  refine Nat.le_trans (txtB_short _) ?_
  simp only [turnB, List.length_map]
  exact parseL_short t
theorem tps_pos {x y : Int} {ps : List Pl} (hv : pilesB ps = true) : ∀ p ∈ tps x y ps, 1 ≤ p.2 := fun p hp => by
  obtain ⟨q, hq, rfl⟩ := List.mem_map.1 hp
  exact (pilesB_pos hv).2.1 q hq
theorem turned_eq {x y : Int} {ts ps : List Pl} (h : Asc ts ∧ (∀ u, tot ts u = tot (tps x y ps) u) ∧ ∀ q ∈ ts, ∃ p ∈ tps x y ps, p.1 = q.1) (hv : pilesB ps = true) : ts = turnPs x y ps := by
  refine piles_ext h.1 (turnPs_asc x y ps) (fun q hq => ?_) (turnPs_pos (pilesB_pos hv).2.1) (fun u => ?_)
  · rw [← tot_mem h.1 q hq, h.2.1]; exact tot_pos (tps_pos hv) (h.2.2 q hq)
  · rw [h.2.1]; unfold turnPs; rw [tot_merge, tot_zero, Int.zero_add]; rfl

end Go.Proofs.Yteomnjakcnfchaa

namespace Go.Proofs.Yteomnjakcnfchaa
open Go.RowKit

theorem l6In_as (n lo hi : Int) (v : Bool) (w : World) (h : inB n lo hi = v) :
    Calls Try.prog 50 #[.int .i64 n, .int .i64 lo, .int .i64 hi] w fun e w' => e = .returned (.bool v) ∧ w = w' := by subst h; exact l6In_any n lo hi w
theorem turn_take {x y : Int} {zs : List Int} {k : Nat} (hk : k < zs.length) {z : Int} (hz : zs[k]?.getD 0 = z) : turnB x y (zs.take (k + 1)) = turnB x y (zs.take k) ++ [swapC x y z] := by
  have e : zs[k] = z := by rw [← hz]; simp [hk]
  rw [List.take_succ_eq_append_getElem hk, e]
  simp [turnB]
theorem ints_snoc (a : List Int) (z : Int) : (a ++ [z]).map (Value.int .i64) = a.map (Value.int .i64) ++ [.int .i64 z] := by simp

theorem specText_as (a : Option Addr) (len cap : Nat) (zs : List Int) (t : ByteArray) (w : World) (h : IsInts w a len cap zs) (ht : txtB zs = t) :
    Calls Try.prog 77 #[.slice a len cap] w fun e w' => e = .returned (.string t) ∧ Dr w w' := by subst ht; exact specText_any a len cap zs w h
theorem mAt_turn {x y : Int} {ps : List Pl} (h : pilesB ps = true) (k i : Nat) : 0 ≤ mAt (mergeL [] ((tps x y ps).take k)) i ∧ mAt (mergeL [] ((tps x y ps).take k)) i ≤ 1000000 := by
  refine mAt_merge (xs := []) rfl (fun p hp => ?_) ?_ i
  · obtain ⟨q, hq, rfl⟩ := List.mem_map.1 (List.mem_of_mem_take hp)
    exact mem_valid h q hq
  · rw [List.length_take, tps_length]; have := (pilesB_pos h).2.2.2.2; omega

end Go.Proofs.Yteomnjakcnfchaa

namespace Go.Proofs.Yteomnjakcnfchaa
open Go.RowKit

theorem valid_len {ps : List Pl} (h : pilesB ps = true) : ps.length ≤ 12 := (pilesB_pos h).2.2.2.2
theorem addL_cases (ps : List Pl) (t : ByteArray) (m : Int) : addL ps t m = [] ∨ pilesB (addL ps t m) = true := by
  cases h : addB ps t m
  · left; rw [addL, h]; rfl
  · right; exact addL_valid h
theorem joinL_cases (xs ys : List Pl) : joinL xs ys = [] ∨ pilesB (joinL xs ys) = true := by
  cases h : joinB xs ys
  · left; rw [joinL, h]; rfl
  · right; rw [joinL, h]; exact ((joinB_iff xs ys).1 h).2.2
theorem canL_cases (ps : List Pl) (x y : Int) : canL ps x y = [] ∨ pilesB (canL ps x y) = true := by
  cases h : canB ps x y
  · left; rw [canL, h]; rfl
  · right; rw [canL, h]; have := (canB_iff ps x y).1 h; exact turn_valid this.2.1 this.2.2 this.1
theorem small_nil : Small [] := fun i => by simp [tAt]
theorem of_cases {r : List Pl} (h : r = [] ∨ pilesB r = true) : r.length ≤ 12 ∧ Small r := by
  rcases h with rfl | h
  · exact ⟨by simp, small_nil⟩
  · exact ⟨valid_len h, small_valid h⟩
theorem totalL_range (ps : List Pl) : -1 ≤ totalL ps ∧ totalL ps ≤ 13000000 := by
  unfold totalL
  cases h : pilesB ps
  · simp
  · have hm := mAt_wide (mAt_valid h)
    have := sum_bound hm ps.length (Nat.le_refl _)
    rw [List.take_length] at this
    have hl := valid_len h
    simp
    omega
theorem wrap_tot (a b : List Pl) : IntKind.i64.wrap (totalL a + totalL b) = totalL a + totalL b := IntWalk.i64_in _ (by have := totalL_range a; have := totalL_range b; omega)

end Go.Proofs.Yteomnjakcnfchaa
