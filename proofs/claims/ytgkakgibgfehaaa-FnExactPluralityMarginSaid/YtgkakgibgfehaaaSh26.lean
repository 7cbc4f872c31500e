/-
  What partCounts makes of a part, as the counts of first preferences; the parts of a list add up. Of no memory.
  DERIVED: THE SHELF's CONTRACTS AT THIS DUMP, IN PLAIN WORDS (tools/lay-plain.mjs out of 'YtgkakgibgfehaaaShelfHome.lean', which tools/lay-shelf.mjs wrote): THE SAME DECLARATIONS UNDER THE SAME NAMES: 'import', 'namespace', 'open', 'def', 'theorem' AND NOTHING ELSE: no command of the shelf's: FOR A HAND-IN. Each laying: the table of numbers ('.._ren') and one theorem, a field a fact of the dump's own or the kernel's comparison; each contract: ONE APPLICATION.
  impl's Pile.compare: the order of texts, byte by byte; impl.PilesValid: for every slice of piles with texts of at most 1048600 bytes. Neither writes into memory that was there.
  impl.PilesValid: for every slice of piles with texts of at most 1048600 bytes; it writes into no memory that was there.
  spec.l3Total, spec.PilesTotal, impl.PilesTotal: for lists of piles with texts of at most 1048600 bytes.
  Whether piles fit n candidates: impl.pilesFit, for every list of piles (at most 1048600, with texts of at most 1048600 bytes) and every number; it does not write into memory that was there.
  impl.FirstCounts, over the program with our own function: what it answers.
  spec.l1First: for every ballot of at most 1048600 ints and every list of at most 1048600 bools; neither writes into memory that was there.
  A failure is told with an empty list of the call's own.
  spec.l11Counts and spec.FirstCounts: for every list of piles that fit (and, FirstCounts, for all others too).
  sameInts: whether two lists are equal. No condition but what each theorem says.
  What the statements of first counts share: impl.FirstCounts with its answer named (over the program with our own function), and what valid counts keep.
  turned: two candidates exchanged.
  Parts of a list that lies in memory: what is appended of it. No condition but what each theorem says.
  turnedAll: each of a list exchanged; at lists of at most twenty ints.
  The statements' own sumOf, most and turnedAll: at lists of at most twenty ints.
-/
import Derived.Test.YtgkakgibgfehaaaSh23
import Derived.Test.YtgkakgibgfehaaaSh33
import Derived.Test.YtgkakgibgfehaaaSh25
import Derived.Shelf.Small.Strs
import Derived.Test.YtgkakgibgfehaaaProg
import Derived.Test.YtgkakgibgfehaaaSh32
import Derived.Test.YtgkakgibgfehaaaSh8
import Derived.Test.YtgkakgibgfehaaaSh6
import Derived.Sort.Grow
import Derived.Test.YtgkakgibgfehaaaSh7
import Derived.Test.YtgkakgibgfehaaaSh22
import Derived.Test.YtgkakgibgfehaaaSh24
import Derived.Test.YtgkakgibgfehaaaSh5
import Derived.Test.YtgkakgibgfehaaaSh3
import Derived.Deep.RegionLaw
namespace Go.Proofs.Ytgkakgibgfehaaa
open Go.Proofs.Ytgkakgibgfehaaa.Md
theorem partW_counts {L : List Bool} {a : List Pl} (ha : ∀ p ∈ a, FitP L p) (hl : a.length ≤ 12) : partW L a = countsL a L := by
  have key : ∀ k, k ≤ a.length → partW L (a.take k) = countsL (a.take k) L := by
    intro k
    induction k with
    | zero =>
      intro _
      rw [List.take_zero, countsL_nil]
      rfl
    | succ k ih =>
      intro hk
      have hk' : k < a.length := by omega
      rw [partW_next hk', ih (by omega)]
      have hmem : a[k] ∈ a := List.getElem_mem hk'
      obtain ⟨v5, vn, h1, h2⟩ := ha _ hmem
      have e0 : (tAt a k, mAt a k) = a[k] := by simp [tAt, mAt, hk']
      rw [e0, List.take_succ_eq_append_getElem hk']
      generalize a[k] = p at *
      have hpl : parseL p.1 = nums p.1 := parseL_ok v5
      have hfb : firstB (parseL p.1) L = firstL (parseL p.1) L := by unfold firstB; rw [hpl, if_pos vn]
      unfold stepW
      simp only [hfb]
      by_cases hneg : firstL (parseL p.1) L < 0
      · rw [if_pos hneg, countsL_miss hneg]
      · rw [if_neg hneg]
        obtain ⟨z, hz⟩ : ∃ z : Nat, firstL (parseL p.1) L = (z : Int) := ⟨(firstL (parseL p.1) L).toNat, by omega⟩
        have hzl : z < L.length := by
          rcases firstL_mem (parseL p.1) L with h | h
          · omega
          · rw [hpl] at h hz
            have := ((vB_mem vn).2.2 _ h).2
            omega
        rw [countsL_hit hzl hz, hz, Int.toNat_natCast]
        congr 1
        have hr := counts_range (L := L) (a := a.take k) (fun q hq => ha q (List.mem_of_mem_take hq)) hzl
        have hlen : (a.take k).length ≤ 12 := by rw [List.length_take]; omega
        rw [IntKind.wrap_i64]
        omega
  have := key a.length (Nat.le_refl _)
  rwa [List.take_length] at this
/-- The parts ahead of part i, and that part. -/
theorem chunk_next {ps : List Pl} {l i : Nat} (hi : 4 * i < l) : ps.take (4 * i) ++ chunkP ps l i = ps.take (min (4 * (i + 1)) l) := by
  unfold chunkP
  rw [show min (4 * (i + 1)) l = 4 * i + min 4 (l - 4 * i) by omega, List.take_add]
/-- The counts in the midst of part i, j candidates on. -/
def midC (ps : List Pl) (L : List Bool) (l i j : Nat) : List Int := (List.range L.length).map fun k => (countsL (ps.take (min (4 * i) l)) L)[k]?.getD 0 + (if k < j then (countsL (chunkP ps l i) L)[k]?.getD 0 else 0)
theorem midC_length (ps : List Pl) (L : List Bool) (l i j : Nat) : (midC ps L l i j).length = L.length := by simp [midC]
theorem midC_zero (ps : List Pl) (L : List Bool) (l i : Nat) : midC ps L l i 0 = countsL (ps.take (min (4 * i) l)) L := by
  refine List.ext_getElem (by simp [midC, countsL]) fun k h1 h2 => ?_
  have hk : k < L.length := by simpa [midC] using h1
  simp [midC, countsL, hk]
theorem midC_all {ps : List Pl} {L : List Bool} {l i : Nat} (hi : 4 * i < l) : midC ps L l i L.length = countsL (ps.take (min (4 * (i + 1)) l)) L := by
  refine List.ext_getElem (by simp [midC, countsL]) fun k h1 h2 => ?_
  have hk : k < L.length := by simpa [midC] using h1
  have e := counts_parts (ps.take (4 * i)) (chunkP ps l i) hk
  rw [chunk_next hi] at e
  have e2 : min (4 * i) l = 4 * i := by omega
  have e3 : (countsL (ps.take (min (4 * (i + 1)) l)) L)[k] = (countsL (ps.take (min (4 * (i + 1)) l)) L)[k]?.getD 0 := by simp [h2]
  rw [e3, e]
  simp [midC, hk, e2]
theorem midC_next {ps : List Pl} {L : List Bool} {l i j : Nat} : midC ps L l i (j + 1) = (midC ps L l i j).set j ((midC ps L l i j)[j]?.getD 0 + (countsL (chunkP ps l i) L)[j]?.getD 0) := by
  refine List.ext_getElem (by simp [midC]) fun k h1 h2 => ?_
  have hk : k < L.length := by simpa [midC] using h1
  rw [List.getElem_set]
  by_cases e : j = k
  · subst e
    simp [midC, hk]
  · rw [if_neg e]
    have : (k < j + 1) = (k < j) := by apply propext; omega
    simp [midC, this]
end Go.Proofs.Ytgkakgibgfehaaa

namespace Go.Proofs
open Go.Shelf
def Tq.cmpStr_ren : Go.Shelf.Ren := ⟨fun | 106 => 125 | 213 => 139 | 265 => 141 | n => n, fun | 9 => 9 | 3 => 3 | n => n, fun | n => n⟩
theorem Tq.cmpStr : Go.Proofs.Lays.n106 Tq.prog Tq.cmpStr_ren := {
  mixed := by kernel_rfl
  f106 := Tq.func125.trans (congrArg some (by kernel_rfl))
  f213 := Tq.func139.trans (congrArg some (by kernel_rfl))
  f265 := Tq.func141.trans (congrArg some (by kernel_rfl))
  t3 := Tq.underlying3
  a3 := Tq.isAgg3
  z3 := Tq.sizeOf3
  v3 := Tq.zeroValue3
  t9 := Tq.underlying9
  a9 := Tq.isAgg9
  z9 := Tq.sizeOf9
  v9 := Tq.zeroValue9 }
end Go.Proofs

namespace Go.Proofs.Ytgkakgibgfehaaa
open Go.RowKit Go.Shelf Go.Sort

theorem below_grow {B : Nat} {w w' : World} (h : Below B w w') (hB : B ≤ w.heap.size) (os : Array Obj) : Below B w (grow w' os) := ⟨h.os, h.tape, h.output, by have := h.size; simp; omega, fun k hk => (heap_grow_old _ _ (Nat.lt_of_lt_of_le hk (Nat.le_trans hB h.size))).trans (h.block k hk)⟩

set_option maxHeartbeats 1000000 in
/-- **impl's Pile.compare**. -/
theorem compare_any (p q : Pl) (w : World) :
    Calls Tq.prog 94 #[.agg #[.string p.1, .int .i64 p.2], .agg #[.string q.1, .int .i64 q.2]] w fun e w' => e = .returned (.int .i64 (cmpP p q)) ∧ ∃ n os, w' = grow (w.drewN n) os := by
  obtain ⟨r, hr⟩ : ∃ r, Lib.compareBytes p.1.data.toList q.1.data.toList = r := ⟨_, rfl⟩
  have hcon := fun W => Any.strings_Compare Tq.cmpStr p.1 q.1 W
  change ∀ W, Calls Tq.prog 125 _ _ _ at hcon
  rw [hr] at hcon
  have HR : Hid (cmpP p q = r) := hr
  clear hr
  go_enter Tq.func94, Tq.ntmps94
  go_wp2_with (go_at_call 125; refine (hcon _).mono ?_; rintro e w' ⟨rfl, rfl⟩)
  go_ret
  exact ⟨ret_int HR.out.symm, 0, _, by rw [alloc_eq_grow, alloc_eq_grow, grow_grow]; rfl⟩
theorem compare_below (p q : Pl) (w : World) :
    Calls Tq.prog 94 #[.agg #[.string p.1, .int .i64 p.2], .agg #[.string q.1, .int .i64 q.2]] w fun e w' => e = .returned (.int .i64 (cmpP p q)) ∧ Below w.heap.size w w' :=
  (compare_any p q w).mono fun _ _ ⟨he, n, os, hw⟩ => ⟨he, by subst hw; exact below_grow (below_drewN _ _ _) (Nat.le_refl _) _⟩
theorem compare_as (t : ByteArray) (m : Int) (t' : ByteArray) (m' : Int) (r : Int) (w : World) (h : cmpP (t, m) (t', m') = r) :
    Calls Tq.prog 94 #[.agg #[.string t, .int .i64 m], .agg #[.string t', .int .i64 m']] w fun e w' => e = .returned (.int .i64 r) ∧ Below w.heap.size w w' := by
  subst h; exact compare_below (t, m) (t', m') w
end Go.Proofs.Ytgkakgibgfehaaa

namespace Go.Proofs.Ytgkakgibgfehaaa
open Go.RowKit

set_option maxRecDepth 100000 in
set_option maxHeartbeats 2000000 in
/-- **impl.PilesValid** answers as the model does. -/
theorem implPiles_any (a : Option Addr) (len cap : Nat) (ps : List Pl) (w : World) (h : IsPiles w a len cap ps) (hs : Small ps) :
    Calls Tq.prog 55 #[.slice a len cap] w fun e w' => e = .returned (.bool (pilesB ps)) ∧ Below w.heap.size w w' := by
  obtain ⟨h1, h2, h3, h4⟩ := h
  have H1 := Lib.hid h1; clear h1
  have H4 := Lib.hid h4; clear h4
  have HS := Lib.hid hs; clear hs
  obtain ⟨g, hg⟩ : ∃ g, w.heap.size = g := ⟨_, rfl⟩
  by_cases hlong : 12 < len
  · have hgt : decide ((12 : Int) < (len : Int)) = true := decide_eq_true (by omega)
    have HE : Hid (pilesB ps = false) := by
      unfold Hid pilesB
      rw [H1.out, decide_eq_false (by omega)]; simp
    go_enter Tq.func55, Tq.ntmps55
    go_wp2
    go_ret
    exact ⟨ret_bool HE.out.symm, Below.refl _ _⟩
  · have hgt : decide ((12 : Int) < (len : Int)) = false := decide_eq_false (by omega)
    have hl12 : (len : Int) ≤ 12 := by omega
    go_enter Tq.func55, Tq.ntmps55
    go_wp2
    go_loopw [10] (fun i wr => ∃ k : Nat, k ≤ len ∧ i = .int .i64 k ∧ Hid (ascTo ps k = true) ∧ Below g w wr) (fun i _ => len - (intOf i).toNat)
    case atStart => exact ⟨0, Nat.zero_le _, rfl, rfl, Below.refl _ _⟩
    case round =>
      obtain ⟨k, hk, rfl, hA, hB⟩ := hrel
      by_cases hlt : k < len
      · obtain ⟨b, off, rfl, hb, hcell⟩ := H4.out (by omega)
        obtain ⟨t, ht⟩ : ∃ t, tAt ps k = t := ⟨_, rfl⟩
        obtain ⟨m, hm⟩ : ∃ m, mAt ps k = m := ⟨_, rfl⟩
        obtain ⟨v, hv⟩ : ∃ v, pileB t m = v := ⟨_, rfl⟩
        have hst : t.size ≤ 1048600 := by rw [← ht]; exact HS.out k
        have hbg : b < g := by rw [← hg]; exact hb
        have c0 : wr.cell? ⟨b, off + k * 2, none⟩ = some (.string t) := by rw [hB.cell (p := ⟨b, off + k * 2, none⟩) hbg, (hcell k hlt).1, ht]
        have c1 : wr.cell? ⟨b, off + k * 2 + 1, none⟩ = some (.int .i64 m) := by rw [hB.cell (p := ⟨b, off + k * 2 + 1, none⟩) hbg, (hcell k hlt).2, hm]
        have hbr : b < wr.heap.size := Nat.lt_of_lt_of_le (hg.symm ▸ hbg) hB.size
        obtain ⟨W, hW⟩ : ∃ W, wr.alloc (.cells #[.string t, .int .i64 m] 48) = W := ⟨_, rfl⟩
        have hBW : Below g w W := by rw [← hW]; exact hB.alloc (hg ▸ hB.size) _
        have hbW : b < W.heap.size := by rw [← hW]; simp; omega
        have d0 : W.cell? ⟨b, off + k * 2, none⟩ = some (.string t) := by rw [← hW, World.cell?_alloc_past _ _ _ hbr]; exact c0
        have d1 : W.cell? ⟨b, off + k * 2 + 1, none⟩ = some (.int .i64 m) := by rw [← hW, World.cell?_alloc_past _ _ _ hbr]; exact c1
        have e0 : W.cell? ⟨wr.heap.size, 0, none⟩ = some (.string t) := by rw [← hW]; exact World.cell?_alloc_new wr _ _ 0
        have e1 : W.cell? ⟨wr.heap.size, 1, none⟩ = some (.int .i64 m) := by rw [← hW]; exact World.cell?_alloc_new wr _ _ 1
        have hwW : wr.heap.size < W.heap.size := by rw [← hW]; simp
        have u0 : ∀ u : Beh W, u.w.cell? ⟨b, off + k * 2, none⟩ = some (.string t) := Beh.cell d0 hbW
        have u1 : ∀ u : Beh W, u.w.cell? ⟨b, off + k * 2 + 1, none⟩ = some (.int .i64 m) := Beh.cell d1 hbW
        have v0 : ∀ u : Beh W, u.w.cell? ⟨wr.heap.size, 0, none⟩ = some (.string t) := Beh.cell e0 hwW
        have v1 : ∀ u : Beh W, u.w.cell? ⟨wr.heap.size, 1, none⟩ = some (.int .i64 m) := Beh.cell e1 hwW
        have hgW : g ≤ W.heap.size := by have := hB.size; rw [hg] at this; omega
        rcases Nat.eq_zero_or_pos k with hk0 | hk0
        · have hgt0 : decide ((0 : Int) < (k : Int)) = false := decide_eq_false (by omega)
          have hgt1 : decide (0 < k) = false := decide_eq_false (by omega)
          have HN := Lib.hid (asc_first hA.out (by rw [ht, hm, hv]) hk0)
          have HV := Lib.hid hv
          have HCELL := Lib.hid hcell
          clear ht hm hv hcell hk0
          cases v
          · go_wp2_with fail
            refine wp_region_below (by kernel_rfl) (by kernel_rfl) ?_
            repeat (go_big_quiet_step ((go_at_call 93; exact Calls.beh (pileValid_as t m false _ hst HV.out))))
            refine wpQuiet_nil ?_
            rintro _ ⟨⟨w1, hb1⟩, rfl⟩
            have hB1 := hBW.trans (hb1.mono hgW)
            go_wp2
            go_ret
            exact ⟨ret_bool (pilesB_no HN.out hlt H1.out).symm, hg.symm ▸ hB1⟩
          · go_wp2_with fail
            refine wp_region_below (by kernel_rfl) (by kernel_rfl) ?_
            repeat (go_big_quiet_step ((go_at_call 93; exact Calls.beh (pileValid_as t m true _ hst HV.out))))
            refine wpQuiet_nil ?_
            rintro _ ⟨⟨w1, hb1⟩, rfl⟩
            have hB1 := hBW.trans (hb1.mono hgW)
            go_wp2
            go_roundw
            case rel => exact ⟨k + 1, by omega, by go_num, HN, hB1⟩
            case measure => simp [intOf]; omega
        · obtain ⟨j, rfl⟩ : ∃ j, k = j + 1 := ⟨k - 1, by omega⟩
          obtain ⟨t', ht'⟩ : ∃ t', tAt ps j = t' := ⟨_, rfl⟩
          obtain ⟨m', hm'⟩ : ∃ m', mAt ps j = m' := ⟨_, rfl⟩
          obtain ⟨u, hu⟩ : ∃ u, tl t' t = u := ⟨_, rfl⟩
          obtain ⟨r, hr⟩ : ∃ r, cmpP (t', m') (t, m) = r := ⟨_, rfl⟩
          have c2 : W.cell? ⟨b, off + j * 2, none⟩ = some (.string t') := by rw [hBW.cell (p := ⟨b, off + j * 2, none⟩) hbg, (hcell j (by omega)).1, ht']
          have c3 : W.cell? ⟨b, off + j * 2 + 1, none⟩ = some (.int .i64 m') := by rw [hBW.cell (p := ⟨b, off + j * 2 + 1, none⟩) hbg, (hcell j (by omega)).2, hm']
          have u2 : ∀ u : Beh W, u.w.cell? ⟨b, off + j * 2, none⟩ = some (.string t') := Beh.cell c2 hbW
          have u3 : ∀ u : Beh W, u.w.cell? ⟨b, off + j * 2 + 1, none⟩ = some (.int .i64 m') := Beh.cell c3 hbW
          have hgt0 : decide ((0 : Int) < (j : Int) + 1) = true := decide_eq_true (by omega)
          have hgt1 : decide (0 < j + 1) = true := decide_eq_true (by omega)
          have hji : (j : Int) < (len : Int) := by omega
          have HN := Lib.hid (asc_next hA.out (by rw [ht, hm, hv]) (by rw [ht', ht, hu]))
          have HR := Lib.hid hr
          have HGE : Hid (decide ((0 : Int) ≤ r) = !u) := by rw [Hid, ← hr, ← hu]; exact cmp_neg (t', m') (t, m)
          have HV := Lib.hid hv
          have HCELL := Lib.hid hcell
          clear ht ht' hm hm' hv hu hr hcell
          cases v
          · go_wp2_with fail
            refine wp_region_below (by kernel_rfl) (by kernel_rfl) ?_
            repeat (go_big_quiet_step ((go_at_call 93; exact Calls.beh (pileValid_as t m false _ hst HV.out))))
            refine wpQuiet_nil ?_
            rintro _ ⟨⟨w1, hb1⟩, rfl⟩
            have hB1 := hBW.trans (hb1.mono hgW)
            go_wp2
            go_ret
            exact ⟨ret_bool (pilesB_no HN.out hlt H1.out).symm, hg.symm ▸ hB1⟩
          · go_wp2_with fail
            refine wp_region_below (by kernel_rfl) (by kernel_rfl) ?_
            repeat (go_big_quiet_step ((first | (go_at_call 93; exact Calls.beh (pileValid_as t m true _ hst HV.out)) | (go_at_call 94; exact Calls.beh (compare_as t' m' t m r _ HR.out)))))
            refine wpQuiet_nil ?_
            rintro _ ⟨⟨w1, hb1⟩, rfl⟩
            have hB1 := hBW.trans (hb1.mono hgW)
            cases u
            · have hge : decide ((0 : Int) ≤ r) = true := HGE.out
              simp only [hge]
              go_wp2
              go_ret
              exact ⟨ret_bool (pilesB_no HN.out hlt H1.out).symm, hg.symm ▸ hB1⟩
            · have hge : decide ((0 : Int) ≤ r) = false := HGE.out
              simp only [hge]
              go_wp2
              go_roundw
              case rel => exact ⟨j + 1 + 1, by omega, by go_num, HN, hB1⟩
              case measure => simp [intOf]; omega
      · obtain rfl : k = len := by omega
        have hyes := pilesB_yes hA.out H1.out
        rw [decide_eq_true hl12] at hyes
        have HY := Lib.hid hyes; clear hyes
        go_wp2
        go_ret
        exact ⟨ret_bool HY.out.symm, hg.symm ▸ hB⟩

end Go.Proofs.Ytgkakgibgfehaaa

namespace Go.Proofs.Ytgkakgibgfehaaa
open Go.RowKit

theorem sumL_app (a b : List Pl) : sumL (a ++ b) = sumL a + sumL b := by
  induction a with
  | nil => simp [sumL]
  | cons p a ih => rw [List.cons_append, sumL_cons, sumL_cons, ih]; omega
theorem sum_take {ps : List Pl} {k : Nat} (h : k < ps.length) : sumL (ps.take (k + 1)) = sumL (ps.take k) + mAt ps k := by
  rw [take_one h, sumL_app]; simp [sumL]
theorem sum_bound {ps : List Pl} (h : ∀ i, 0 ≤ mAt ps i ∧ mAt ps i ≤ 1000000) (k : Nat) (hk : k ≤ ps.length) : 0 ≤ sumL (ps.take k) ∧ sumL (ps.take k) ≤ 1000000 * (k : Int) := by
  induction k with
  | zero => simp [sumL]
  | succ k ih =>
    have := ih (by omega)
    rw [sum_take (by omega)]
    have := h k
    omega
theorem implPiles_as (a : Option Addr) (len cap : Nat) (ps : List Pl) (v : Bool) (w : World) (h : IsPiles w a len cap ps) (hs : Small ps) (hv : pilesB ps = v) :
    Calls Tq.prog 55 #[.slice a len cap] w fun e w' => e = .returned (.bool v) ∧ Below w.heap.size w w' := by subst hv; exact implPiles_any a len cap ps w h hs

set_option maxRecDepth 100000 in
set_option maxHeartbeats 2000000 in
/-- **impl.PilesTotal**. -/
theorem implTotal_as (a : Option Addr) (len cap : Nat) (ps : List Pl) (n : Int) (w : World) (h : IsPiles w a len cap ps) (hs : Small ps) (hn : totalL ps = n) :
    Calls Tq.prog 19 #[.slice a len cap] w fun e w' => e = .returned (.int .i64 n) ∧ Below w.heap.size w w' := by
  have HI := Lib.hid h
  have HS := Lib.hid hs
  have HN := Lib.hid hn
  have H1 := Lib.hid h.1
  clear h hs hn
  obtain ⟨G, hG⟩ : ∃ G, w.heap.size = G := ⟨_, rfl⟩
  cases hv : pilesB ps
  · have e : Hid (n = -1) := by rw [Hid, ← HN.out, totalL, hv]; rfl
    have HV := Lib.hid hv; clear hv
    go_enter Tq.func19, Tq.ntmps19
    go_wp2_with fail
    refine (implPiles_as _ len cap ps false _ HI.out HS.out HV.out).mono ?_
    rintro e1 w1 ⟨rfl, hb1⟩
    go_wp2
    go_ret
    exact ⟨ret_int e.out.symm, hb1⟩
  · have e : Hid (sumL ps = n) := by rw [Hid, ← HN.out, totalL, hv]; rfl
    have HM := Lib.hid (mAt_wide (mAt_valid hv))
    have hl12 : len ≤ 12 := by have := (pilesB_pos hv).2.2.2.2; rw [H1.out] at this; exact this
    have HV := Lib.hid hv; clear hv
    go_enter Tq.func19, Tq.ntmps19
    go_wp2_with fail
    refine (implPiles_as _ len cap ps true _ HI.out HS.out HV.out).mono ?_
    rintro e1 w1 ⟨rfl, hb1⟩
    have B1 := Lib.hid (hG ▸ hb1); clear hb1
    go_wp2
    go_loopw [3, 11] (fun s i wr => ∃ k : Nat, k ≤ len ∧ i = .int .i64 k ∧ s = .int .i64 (sumL (ps.take k)) ∧ Below G w wr) (fun _ i _ => len - (intOf i).toNat)
    case atStart => exact ⟨0, Nat.zero_le _, rfl, rfl, B1.out⟩
    case round =>
      obtain ⟨k, hk, rfl, rfl, hB⟩ := hrel
      obtain ⟨s, hs⟩ : ∃ s, sumL (ps.take k) = s := ⟨_, rfl⟩
      have hb := sum_bound HM.out k (by rw [H1.out]; exact hk)
      have hBw : Below w.heap.size w wr := hG.symm ▸ hB
      by_cases hlt : k < len
      · obtain ⟨b, off, rfl, hb', c0, c1⟩ := (HI.out.below hBw).piles hlt
        obtain ⟨m, hm⟩ : ∃ m, mAt ps k = m := ⟨_, rfl⟩
        have hst := sum_take (ps := ps) (k := k) (by rw [H1.out]; exact hlt)
        have hmb := HM.out k
        rw [hm] at c1 hmb hst
        rw [hs] at hb hst ⊢
        have HST := Lib.hid hst
        clear hst hm hs
        have hw1 : IntKind.i64.wrap (s + m) = s + m := IntWalk.i64_in _ (by omega)
        go_wp2
        go_roundw
        case rel => exact ⟨k + 1, by omega, by go_num, by rw [HST.out], hB.alloc (hG ▸ hBw.size) _⟩
        case measure => simp [intOf]; omega
      · obtain rfl : k = len := by omega
        have hall : sumL (ps.take k) = n := by rw [List.take_of_length_le (by rw [H1.out]; omega)]; exact e.out
        rw [hall]
        clear hall hs hb
        go_wp2
        go_ret
        exact ⟨rfl, hBw⟩

end Go.Proofs.Ytgkakgibgfehaaa

namespace Go.Proofs.Ytgkakgibgfehaaa
open Go.RowKit

attribute [local go_sem] Oper.semAt_some

theorem fits_out {ps : List Pl} {n : Int} (h : n < 1 ∨ 5 < n) : fitsB ps n = false := by
  have e : inB n 1 5 = false := by unfold inB; exact decide_eq_false (by omega)
  unfold fitsB; rw [e]; simp

set_option maxRecDepth 100000 in
set_option maxHeartbeats 2000000 in
/-- **impl.pilesFit**. -/
theorem implFits_as (a : Option Addr) (len cap : Nat) (ps : List Pl) (n : Int) (v : Bool) (w : World) (h : IsPiles w a len cap ps) (hs : Small ps) (hv : fitsB ps n = v) :
    Calls Tq.prog 51 #[.slice a len cap, .int .i64 n] w fun e w' => e = .returned (.bool v) ∧ Below w.heap.size w w' := by
  have HI := Lib.hid h
  have HS := Lib.hid hs
  have HV := Lib.hid hv
  have H1 := Lib.hid h.1
  clear h hs hv
  obtain ⟨G, hG⟩ : ∃ G, w.heap.size = G := ⟨_, rfl⟩
  by_cases h1 : n < 1
  · have HE : Hid (fitsB ps n = false) := fits_out (by omega)
    have hd : decide (n < 1) = true := decide_eq_true h1
    go_enter Tq.func51, Tq.ntmps51
    go_wp2
    go_ret
    exact ⟨ret_bool (by rw [← HV.out, HE.out]), Below.refl _ _⟩
  by_cases h5 : 5 < n
  · have HE : Hid (fitsB ps n = false) := fits_out (by omega)
    have hd : decide (n < 1) = false := decide_eq_false h1
    have hd5 : decide (5 < n) = true := decide_eq_true h5
    go_enter Tq.func51, Tq.ntmps51
    go_wp2
    go_ret
    exact ⟨ret_bool (by rw [← HV.out, HE.out]), Below.refl _ _⟩
  have hd : decide (n < 1) = false := decide_eq_false h1
  have hd5 : decide (5 < n) = false := decide_eq_false h5
  have HIN : Hid (inB n 1 5 = true) := by unfold Hid inB; simp; omega
  cases hp : pilesB ps
  · have HE : Hid (fitsB ps n = false) := by unfold Hid fitsB; rw [hp]; rfl
    have HP := Lib.hid hp; clear hp
    go_enter Tq.func51, Tq.ntmps51
    go_wp2_with fail
    refine (implPiles_as _ _ _ ps false _ HI.out HS.out HP.out).mono ?_
    rintro e w3 ⟨rfl, hb3⟩
    go_wp2
    go_ret
    exact ⟨ret_bool (by rw [← HV.out, HE.out]), hb3⟩
  · have hl12 : len ≤ 12 := by have := (pilesB_pos hp).2.2.2.2; rw [H1.out] at this; exact this
    have HP := Lib.hid hp; clear hp
    go_enter Tq.func51, Tq.ntmps51
    go_wp2_with fail
    refine (implPiles_as _ _ _ ps true _ HI.out HS.out HP.out).mono ?_
    rintro e w3 ⟨rfl, hb3⟩
    have B3 := Lib.hid (hG ▸ hb3); clear hb3
    go_wp2
    go_loopw [6, 7, 8, 22] (fun _ _ _ i wr => ∃ k : Nat, k ≤ len ∧ i = .int .i64 k ∧ Hid (∀ j, j < k → validB (parseL (tAt ps j)) n = true) ∧ Below G w wr) (fun _ _ _ i _ => len - (intOf i).toNat)
    case atStart => exact ⟨0, Nat.zero_le _, rfl, fun j hj => by omega, B3.out⟩
    case round =>
      obtain ⟨k, hk, rfl, hA, hB⟩ := hrel
      have hBw : Below w.heap.size w wr := hG.symm ▸ hB
      by_cases hlt : k < len
      · obtain ⟨b, off, rfl, hb, c0, c1⟩ := (HI.out.below hBw).at_text hlt
        obtain ⟨t, ht⟩ : ∃ t, tAt ps k = t := ⟨_, rfl⟩
        obtain ⟨m, hm⟩ : ∃ m, mAt ps k = m := ⟨_, rfl⟩
        obtain ⟨pl, hpl⟩ : ∃ pl, parseL t = pl := ⟨_, rfl⟩
        obtain ⟨u, hu⟩ : ∃ u, validB pl n = u := ⟨_, rfl⟩
        have hst : t.size ≤ 1048600 := by rw [← ht]; exact HS.out k
        have hl5 : pl.length ≤ 5 := by rw [← hpl]; exact parseL_short t
        have HOK : Hid (validB (nums t) 5 = true) := by
          have := (pilesB_pos HP.out).2.2.2.1 _ (pile_mem (ps := ps) (k := k) (by rw [H1.out]; exact hlt))
          unfold Hid; rw [← ht]; exact this
        rw [ht] at c0
        rw [hm] at c1
        have HT := Lib.hid ht
        have HPL := Lib.hid hpl
        have HU := Lib.hid hu
        have hGs : G ≤ wr.heap.size := by have := hB.size; rw [hG] at this; exact this
        clear ht hpl hu hBw hm
        go_wp2_with fail
        refine (implParse_as t pl true _ hst HPL.out HOK.out).mono ?_
        rintro e w4 ⟨a4, c4, rfl, ho4, hb4⟩
        have I4 := Lib.hid (IsInts.of_owned ho4 (by omega))
        have B4 : Hid (Below G w w4) := by
          refine hB.trans (Below.mono (?_ : Below wr.heap.size wr w4) hGs)
          first | exact ((Below.refl _ _).alloc (Nat.le_refl _) _).trans (hb4.mono (by simp)) | trace_state
        clear ho4 hb4
        go_wp2_with fail
        refine (implValid_any _ _ _ pl n _ I4.out).mono ?_
        rintro e w5 ⟨he, hb5⟩
        rw [HU.out] at he
        subst he
        have B5 := Lib.hid (B4.out.trans (hb5.mono (by have := B4.out.size; rw [hG] at this; exact this)))
        clear hb5
        have HN : Hid (validB (parseL (tAt ps k)) n = u) := by unfold Hid; rw [HT.out, HPL.out, HU.out]
        cases u
        · go_wp2
          go_ret
          exact ⟨ret_bool (by rw [← HV.out]; exact (fits_no (by rw [H1.out]; exact hlt) HN.out).symm), hG.symm ▸ B5.out⟩
        · go_wp2
          go_roundw
          case rel =>
            refine ⟨k + 1, by omega, by go_num, fun j hj => ?_, B5.out⟩
            by_cases e : j = k
            · subst e; exact HN.out
            · exact hA.out j (by omega)
          case measure => simp [intOf]; omega
      · obtain rfl : k = len := by omega
        have HE : Hid (fitsB ps n = (pilesB ps && inB n 1 5)) := fits_all (fun i hi => hA.out i (by rw [← H1.out]; exact hi))
        go_wp2
        go_ret
        exact ⟨ret_bool (by rw [← HV.out, HE.out, HP.out, HIN.out]; rfl), hG.symm ▸ hB⟩

end Go.Proofs.Ytgkakgibgfehaaa

namespace Go.Proofs.Ytgkakgibgfehaaa
open Go.RowKit Go.Proofs.Ytgkakgibgfehaaa.Md

attribute [local go_sem] Oper.semAt_some
/-- The rows stand, but one block that is written. -/
def But (g : Nat) (w wr : World) : Prop := (wr.heap.size = w.heap.size ∧ ∀ b, b ≠ g → wr.heap[b]? = w.heap[b]?) ∧ wr.os = w.os ∧ wr.tape = w.tape ∧ wr.output = w.output
theorem But.refl (g : Nat) (w : World) : But g w w := ⟨⟨rfl, fun _ _ => rfl⟩, rfl, rfl, rfl⟩
theorem But.set {g : Nat} {w wr : World} (h : But g w wr) (x : Nat) (v : Value) : But g w (wr.setCell ⟨g, x, none⟩ v) :=
  ⟨⟨by rw [← h.1.1]; simp [World.setCell], fun b hb => (heap_setCell_other wr ⟨g, x, none⟩ b v hb).trans (h.1.2 b hb)⟩, h.2⟩
theorem But.below {g n : Nat} {w wr : World} (h : But g w wr) (hn : n ≤ g) : Below n w wr := ⟨h.2.1, h.2.2.1, h.2.2.2, Nat.le_of_eq h.1.1.symm, fun k hk => h.1.2 k (by omega)⟩

set_option maxRecDepth 100000 in
set_option maxHeartbeats 4000000 in
theorem implCounts_as (pa : Option Addr) (l ca : Nat) (ps : List Pl) (pb : Option Addr) (m cb : Nat) (L : List Bool) (v : Bool) (w : World) (hps : IsPiles w pa l ca ps) (hsm : Small ps) (hbs : IsBools w pb m cb L) (hv : fitsB ps (m : Int) = v) :
    Calls Tq.prog 15 #[.slice pa l ca, .slice pb m cb] w fun e w' => Below w.heap.size w w' ∧ ((v = false ∧ e = .returned (.tuple #[.slice none 0 0, .bool false])) ∨
      (v = true ∧ ∃ g, e = .returned (.tuple #[.slice (some ⟨g, 0, none⟩) m m, .bool true]) ∧ w'.ownsRow w.heap.size 3 1 (.slice (some ⟨g, 0, none⟩) m m) m ((countsL ps L).map (Value.int .i64)))) := by
  have HP := Lib.hid hps
  have HB := Lib.hid hbs
  have HV := Lib.hid hv
  have hLm : L.length = m := hbs.1
  obtain ⟨i0, hi, hz0, hz1, hz2⟩ := info_parts int_info
  clear hps hbs hv
  go_enter Tq.func15, Tq.ntmps15
  go_wp2_with fail
  refine (implFits_as pa l ca ps (m : Int) v w HP.out hsm HV.out).mono ?_
  rintro e w0 ⟨rfl, hb0⟩
  cases v
  · go_wp2_with fail
    go_ret2
    exact ⟨hb0, rfl⟩
  · obtain ⟨hF, hl12, hm1, hm5⟩ := fits_fitP (L := L) (by rw [hLm]; exact HV.out)
    rw [hLm] at hm1 hm5
    obtain ⟨b2, o2, e2, -⟩ := HB.out.2.2.2 (by omega)
    subst e2
    obtain ⟨g, hg⟩ : ∃ g, w0.heap.size = g := ⟨_, rfl⟩
    go_wp2_with (at_make; refine wpList_make_full _ rfl _ _ 27 rfl w0.heap.size 3 i0 (.int .i64 0) 1 Tq.underlying27 hi hz0 hz1 .i64 .i64 _ _ m rfl rfl rfl rfl (by rw [hz2]; omega) (by unfold maxLen; omega) (Nat.le_refl _) ?_; intro w3 hown hgrow)
    rw [hg] at hown
    have hb3 : Below g w0 w3 := hg ▸ (Below.refl _ w0).grown hgrow (Nat.le_refl _) (fun k e => by cases e)
    have hgw : w.heap.size ≤ g := by rw [← hg]; exact hb0.size
    have hbw3 : Below w.heap.size w w3 := hb0.trans (hb3.mono hgw)
    have hOwn := own_as pa l ca ps b2 o2 m cb L w3 (HP.out.below hbw3) hsm (HB.out.below hbw3) (by omega)
    obtain ⟨n, hn⟩ : ∃ n, partsOf l = n := ⟨_, rfl⟩
    rw [hn] at hOwn
    have hnb : n ≤ 1048600 := by rw [← hn]; unfold partsOf; have := HP.out.2.2.1; omega
    have HN := Lib.hid hn
    clear hn
    have HO3 := Lib.hid hown
    have HB3 := Lib.hid hbw3
    clear hown hgrow hb3 hb0 hbw3 hi hz0 hz1 hz2 hg
    go_wp2_with fail
    refine hOwn.mono ?_
    rintro e w4 ⟨C, rb, rfl, hR⟩
    clear hOwn
    have HLm := Lib.hid hLm
    have HF : Hid (∀ p ∈ ps, FitP L p) := hF
    have HL12 : Hid (ps.length ≤ 12) := hl12
    have hgl : g < w3.heap.size := (HO3.out.lt g rfl).2
    have hgC : g < C := Nat.lt_of_lt_of_le hgl hR.c0
    have HB4 : Hid (Below w.heap.size w w4) := HB3.out.trans (hR.below.mono HB3.out.size)
    have HO4 : Hid (w4.ownsRow g 3 1 (.slice (some ⟨g, 0, none⟩) m m) m ((countsL (ps.take (min (4 * 0) l)) L).map (Value.int .i64))) := by
      have h1 := owns_under HO3.out hR.below
      have e : countsL (ps.take (min (4 * 0) l)) L = List.replicate m 0 := by rw [Nat.mul_zero, Nat.zero_min, List.take_zero, countsL_nil, hLm]
      unfold Hid; rw [e, ← zeros_made]
      exact h1
    have HR := Lib.hid hR
    clear hR HO3 HB3 hLm hF hl12 hgl
    go_wp2_with fail
    go_loopw [8, 9, 10, 23, 24, 25, 26, 27, 28, 29, 30, 31, 32, 33, 34, 35, 36, 37, 38, 39, 40, 41, 42] (fun _ _ _ iv _ _ _ _ _ _ _ _ _ _ _ _ _ _ _ _ _ _ _ wr => ∃ i : Nat, i ≤ n ∧ iv = .int .i64 (i : Int) ∧ Hid (wr.ownsRow g 3 1 (.slice (some ⟨g, 0, none⟩) m m) m ((countsL (ps.take (min (4 * i) l)) L).map (Value.int .i64))) ∧ Hid (But g w4 wr)) (fun _ _ _ iv _ _ _ _ _ _ _ _ _ _ _ _ _ _ _ _ _ _ _ _ => n - (intOf iv).toNat)
    case atStart => exact ⟨0, Nat.zero_le _, rfl, HO4, But.refl _ _⟩
    case round =>
      rename World => wx
      obtain ⟨i, hin, rfl, hO, hBt⟩ := hrel
      clear HO4
      by_cases hlt : i < n
      · have h4 : 4 * i < l := by have := HN.out; unfold partsOf at this; omega
        have hcC : wx.cell? ⟨C, i, none⟩ = some (.slice (some ⟨rb i, 0, none⟩) m m) := by
          have e := rowsC_get (m := m) (i := n) (rb := rb) hlt
          rw [if_pos hlt] at e
          have h1 : wx.heap[C]? = _ := (hBt.out.1.2 C (by omega)).trans HR.out.cells
          simp [World.cell?, h1, e]
        have hlt' : (i : Int) < (n : Int) := by omega
        obtain ⟨r, hr⟩ : ∃ r, rb i = r := ⟨_, rfl⟩
        have hgr : g < r := by have := (HR.out.rows i hlt).1; omega
        have hrow : Hid (w4.heap[r]? = some (.cells (rowOf L ps l i) 3 (0, 0))) := by rw [← hr]; exact (HR.out.rows i hlt).2
        rw [hr] at hcC
        have hO0 : Hid (wx.ownsRow g 3 1 (.slice (some ⟨g, 0, none⟩) m m) m ((midC ps L l i 0).map (Value.int .i64))) := by unfold Hid; rw [midC_zero]; exact hO.out
        have hFc : Hid (∀ p ∈ chunkP ps l i, FitP L p) := fun p hp => HF.out p (List.mem_of_mem_drop (List.mem_of_mem_take hp))
        have hLc : Hid ((chunkP ps l i).length ≤ 12) := by unfold Hid chunkP; have := HL12.out; rw [List.length_take, List.length_drop]; omega
        clear hr hO
        go_wp2_with fail
        go_loopw [9, 10, 29, 30, 31, 32, 33, 34, 35, 36, 37, 38, 39, 40, 41] (fun _ _ iv _ _ _ _ _ _ _ _ _ _ _ _ wr => ∃ j : Nat, j ≤ m ∧ iv = .int .i64 (j : Int) ∧ Hid (wr.ownsRow g 3 1 (.slice (some ⟨g, 0, none⟩) m m) m ((midC ps L l i j).map (Value.int .i64))) ∧ Hid (But g w4 wr)) (fun _ _ iv _ _ _ _ _ _ _ _ _ _ _ _ _ => m - (intOf iv).toNat)
        case atStart => exact ⟨0, Nat.zero_le _, rfl, hO0, hBt⟩
        case round =>
          rename World => wy
          obtain ⟨j, hjm, rfl, hO, hBy⟩ := hrel
          clear hO0
          by_cases hlj : j < m
          · have hjL : j < L.length := by rw [HLm.out]; exact hlj
            obtain ⟨x, hx⟩ : ∃ x, (countsL (chunkP ps l i) L)[j]?.getD 0 = x := ⟨_, rfl⟩
            obtain ⟨cv, hcv⟩ : ∃ cv, (midC ps L l i j)[j]?.getD 0 = cv := ⟨_, rfl⟩
            have hxr := counts_range (L := L) hFc.out hjL
            rw [hx] at hxr
            have hLc' := hLc.out
            have hcr : 0 ≤ cv ∧ cv ≤ 495 * 12 := by
              have h1 := counts_range (L := L) (a := ps.take (min (4 * i) l)) (fun p hp => HF.out p (List.mem_of_mem_take hp)) hjL
              have h2 : (ps.take (min (4 * i) l)).length ≤ 12 := by have := HL12.out; rw [List.length_take]; omega
              have h3 : cv = (countsL (ps.take (min (4 * i) l)) L)[j]?.getD 0 := by
                rw [← hcv]
                simp [midC, hjL]
              rw [h3]
              omega
            obtain ⟨z, hz⟩ : ∃ z, cv + x = z := ⟨_, rfl⟩
            have hzw : IntKind.i64.wrap (cv + x) = z := by rw [hz, IntKind.wrap_i64]; omega
            have hrc : wy.cell? ⟨r, j, none⟩ = some (.int .i64 x) := by
              have h1 : wy.heap[r]? = _ := (hBy.out.1.2 r (by omega)).trans hrow.out
              have h2 : (rowOf L ps l i)[j]? = some (.int .i64 x) := by
                unfold rowOf
                rw [partW_counts hFc.out hLc.out]
                have h3 : j < (countsL (chunkP ps l i) L).length := by rw [countsL_length]; exact hjL
                simp only [List.getElem?_toArray, List.getElem?_map, List.getElem?_eq_getElem h3, Option.map_some]
                simp only [List.getElem?_eq_getElem h3, Option.getD_some] at hx
                rw [hx]
              simp [World.cell?, h1, h2]
            have hgc : wy.cell? ⟨g, j, none⟩ = some (.int .i64 cv) := by
              rw [hO.out.cellAt j (by omega), ← hcv]
              have : j < (midC ps L l i j).length := by rw [midC_length]; exact hjL
              simp [this]
            have hfz : wy.frozen? ⟨g, j, none⟩ = false := hO.out.frozenAt j
            have O7 : Hid ((wy.setCell ⟨g, j, none⟩ (.int .i64 z)).ownsRow g 3 1 (.slice (some ⟨g, 0, none⟩) m m) m ((midC ps L l i (j + 1)).map (Value.int .i64))) := by
              have h1 := (hO.out.stored j (.int .i64 z)).1
              rw [Hid, midC_next, hcv, hx, hz, ← map_set_int]
              exact h1
            have B7 : Hid (But g w4 (wy.setCell ⟨g, j, none⟩ (.int .i64 z))) := hBy.out.set j _
            have hlj' : (j : Int) < (m : Int) := by omega
            clear hO hBy hx hcv hxr hcr hLc' hz
            go_wp2_with fail
            go_roundw
            case rel => exact ⟨j + 1, by omega, by go_num, O7, B7⟩
            case measure => simp [intOf]; omega
          · obtain rfl : m = j := by omega
            have hOn : Hid (wy.ownsRow g 3 1 (.slice (some ⟨g, 0, none⟩) m m) m ((countsL (ps.take (min (4 * (i + 1)) l)) L).map (Value.int .i64))) := by
              have h1 := hO.out
              have h2 := midC_all (ps := ps) (L := L) h4
              rw [HLm.out] at h2
              rw [h2] at h1
              exact h1
            clear hO
            go_wp2_with fail
            go_roundw
            case rel => exact ⟨i + 1, by omega, by go_num, hOn, hBy⟩
            case measure => simp [intOf]; omega
      · obtain rfl : n = i := by omega
        go_wp2_with fail
        go_ret2
        have hfin : ps.take (min (4 * n) l) = ps := by
          have h1 := HN.out
          have h2 : min (4 * n) l = l := by unfold partsOf at h1; omega
          rw [h2]
          exact List.take_of_length_le (Nat.le_of_eq HP.out.1)
        have hOf := hO.out
        rw [hfin] at hOf
        obtain ⟨q1, ⟨q2, -⟩ | ⟨g', cap, cur, q2, q3, q4⟩⟩ := hOf
        · cases q2
        · exact ⟨HB4.out.trans (hBt.out.below hgw), g, rfl, q1, .inr ⟨g', cap, cur, q2, by omega, q4⟩⟩
end Go.Proofs.Ytgkakgibgfehaaa

namespace Go.Proofs.Ytgkakgibgfehaaa
open Go.RowKit Go.Shelf

attribute [local go_sem] Oper.semAt_some

set_option maxHeartbeats 1000000 in
theorem l1First_any (a : Option Addr) (len cap : Nat) (zs : List Int) (a' : Option Addr) (len' cap' : Nat) (L : List Bool) (w : World) (h : IsInts w a len cap zs) (h' : IsBools w a' len' cap' L) (hr : ∀ z ∈ zs, 0 ≤ z ∧ z < (len' : Int)) :
    Calls Tq.prog 92 #[.slice a len cap, .slice a' len' cap'] w fun e w' => e = .returned (.int .i64 (firstL zs L)) ∧ w = w' := by
  obtain ⟨h1, h2, h3, h4⟩ := h
  obtain ⟨g1, g2, g3, g4⟩ := h'
  have H1 := Lib.hid h1; clear h1
  have H4 := Lib.hid h4; clear h4
  have G4 := Lib.hid g4; clear g4 g1
  have HR := Lib.hid hr; clear hr
  go_enter Tq.func92, Tq.ntmps92
  go_wp2
  go_loop [5] (fun i => ∃ k : Nat, k ≤ len ∧ i = .int .i64 k ∧ Hid (firstL zs L = firstL (zs.drop k) L)) (fun i => len - (intOf i).toNat)
  case atStart => exact ⟨0, Nat.zero_le _, rfl, by simp [Hid]⟩
  case round =>
    obtain ⟨k, hk, rfl, hp⟩ := hrel
    by_cases hlt : k < len
    · obtain ⟨b, o, rfl, hb, hc⟩ := H4.out (by omega)
      have hz := hc k hlt
      have hkz : k < zs.length := by rw [H1.out]; exact hlt
      have hr := HR.out (zs[k]?.getD 0) (by simp [hkz])
      obtain ⟨c, hcz⟩ := Int.eq_ofNat_of_zero_le hr.1
      obtain ⟨lb, lo, rfl, hlb, hlc⟩ := G4.out (by omega)
      have hcl : c < len' := by omega
      have hcell := hlc c hcl
      rw [hcz] at hz
      have HD := drop_cons zs k hkz
      rw [hcz] at HD
      have HD := Lib.hid HD
      clear hc hlc hr hcz hkz
      cases hL : L[c]?.getD false
      · have HL := Lib.hid hL
        go_wp2
        go_ret
        refine ⟨ret_int ?_, rfl⟩
        rw [hp.out, HD.out, firstL, if_neg (by rw [Int.toNat_natCast, HL.out]; simp)]
      · have HL := Lib.hid hL
        go_wp2
        go_round
        case rel =>
          refine ⟨k + 1, by omega, by go_num, ?_⟩
          unfold Hid
          rw [hp.out, HD.out, firstL, if_pos (by rw [Int.toNat_natCast]; exact HL.out)]
        case measure => simp [intOf]; omega
    · obtain rfl : k = len := by omega
      go_wp2
      go_ret
      refine ⟨ret_int ?_, rfl⟩
      rw [hp.out, List.drop_of_length_le (by rw [H1.out]; omega)]; rfl

end Go.Proofs.Ytgkakgibgfehaaa

namespace Go.Proofs.Ytgkakgibgfehaaa
open Go.RowKit

theorem told_nil {w w1 : World} (hb : Below w.heap.size w w1) : Told w [] false (.returned (.tuple #[.slice (some ⟨w1.heap.size, 0, none⟩) 0 0, .bool false])) (w1.alloc (.cells #[] 3)) :=
  ⟨some ⟨w1.heap.size, 0, none⟩, 0, rfl, World.ownsRow_lit w1 #[] 0 hb.size (by unfold maxLen; omega) rfl, hb.alloc hb.size _⟩

end Go.Proofs.Ytgkakgibgfehaaa

namespace Go.Proofs.Ytgkakgibgfehaaa
open Go.RowKit

attribute [local go_sem] Oper.semAt_some

set_option maxRecDepth 100000 in
set_option maxHeartbeats 4000000 in
/-- **spec.l11Counts**. -/
theorem specCounts0_as (a : Option Addr) (len cap : Nat) (ps : List Pl) (a' : Option Addr) (N cap' : Nat) (L : List Bool) (w : World) (h : IsPiles w a len cap ps) (hs : Small ps) (h' : IsBools w a' N cap' L) (hv : fitsB ps (N : Int) = true) :
    Calls Tq.prog 54 #[.slice a len cap, .slice a' N cap'] w fun e w' => ∃ g, e = .returned (.slice (some ⟨g, 0, none⟩) N N) ∧ w'.ownsRow w.heap.size 3 1 (.slice (some ⟨g, 0, none⟩) N N) N ((countsL ps L).map (Value.int .i64)) ∧ Below w.heap.size w w' := by
  obtain ⟨i0, hi, hz0, hz1, hz2⟩ := info_parts int_info
  have HI := Lib.hid h
  have HS := Lib.hid hs
  have H1 := Lib.hid h.1
  have HJ := Lib.hid h'
  have hLN : L.length = N := h'.1
  obtain ⟨hp, hn1, hn5, -⟩ := fits_parts hv
  have hl12 : len ≤ 12 := by have := (pilesB_pos hp).2.2.2.2; rw [H1.out] at this; exact this
  have HV := Lib.hid hv
  have HP := Lib.hid hp
  have HLN := Lib.hid hLN
  have hN1 : 1 ≤ N := by omega
  have hN5 : N ≤ 5 := by omega
  clear h hs hv hp h' hLN
  obtain ⟨g, hg⟩ : ∃ g, w.heap.size = g := ⟨_, rfl⟩
  go_enter Tq.func54, Tq.ntmps54
  go_wp2_with (at_make; refine wpList_make_full _ rfl _ _ 27 rfl w.heap.size 3 i0 (.int .i64 0) 1 Tq.underlying27 hi hz0 hz1 .i64 .i64 _ _ N rfl rfl rfl rfl (by rw [hz2]; omega) (by unfold maxLen; omega) (Nat.le_refl _) ?_; intro w3 hown hgrow)
  have hb3 : Below g w w3 := hg ▸ (Below.refl _ w).grown hgrow (Nat.le_refl _) (fun k e => by cases e)
  rw [hg] at hown
  have O3 : Hid (w3.ownsRow g 3 1 (.slice (some ⟨g, 0, none⟩) N N) N ((countsL (ps.take 0) L).map (Value.int .i64))) := by
    unfold Hid; rw [List.take_zero, countsL_nil, HLN.out, ← zeros_made]
    exact hown
  have HG := Lib.hid hg
  clear hown hgrow hg hi hz0 hz1 hz2
  go_wp2
  go_loopw [6, 7, 8, 9] (fun iv _ _ _ wr => ∃ i : Nat, i ≤ len ∧ iv = .int .i64 (i : Int) ∧ Hid (wr.ownsRow g 3 1 (.slice (some ⟨g, 0, none⟩) N N) N ((countsL (ps.take i) L).map (Value.int .i64))) ∧ Below g w wr) (fun iv _ _ _ _ => len - (intOf iv).toNat)
  case atStart => exact ⟨0, Nat.zero_le _, rfl, O3, hb3⟩
  case round =>
    clear O3 hb3
    obtain ⟨i, hil, rfl, hO, hB⟩ := hrel
    have hgr : g ≤ wr.heap.size := by have := hB.size; rw [HG.out] at this; exact this
    have hBw : Below w.heap.size w wr := HG.out.symm ▸ hB
    by_cases hlt : i < len
    · obtain ⟨b, off, rfl, hb, c0, c1⟩ := (HI.out.below hBw).at_text hlt
      have hbw : b < w.heap.size := by
        obtain ⟨b', off', e, hb', -⟩ := HI.out.at_text hlt
        injection e with e
        injection e with e
        omega
      obtain ⟨t, ht⟩ : ∃ t, tAt ps i = t := ⟨_, rfl⟩
      obtain ⟨m, hm⟩ : ∃ m, mAt ps i = m := ⟨_, rfl⟩
      obtain ⟨pl, hpl⟩ : ∃ pl, parseL t = pl := ⟨_, rfl⟩
      obtain ⟨k, hk⟩ : ∃ k, firstL pl L = k := ⟨_, rfl⟩
      have hst : t.size ≤ 1048600 := by rw [← ht]; exact HS.out i
      have hm99 : 0 ≤ m ∧ m ≤ 99 := by rw [← hm]; exact mAt_valid HP.out i
      have hips : i < ps.length := by rw [H1.out]; exact hlt
      have hvN : validB pl (N : Int) = true := by rw [← hpl, ← ht]; exact (fits_parts HV.out).2.2.2 i hips
      have hlN : pl.length ≤ N := by have := vB_short hvN; omega
      have hkr : k = -1 ∨ (0 ≤ k ∧ k < (N : Int)) := by have := firstL_range (L := L) (by rw [HLN.out]; exact hvN); rw [hk, HLN.out] at this; exact this
      have HNX : Hid (countsL (ps.take (i + 1)) L = if k < 0 then countsL (ps.take i) L else (countsL (ps.take i) L).set k.toNat ((countsL (ps.take i) L)[k.toNat]?.getD 0 + m)) := by
        have := counts_next (L := L) hips (k := k) (by rw [ht, hpl]; exact hk) (by rw [HLN.out]; exact hkr)
        rw [hm] at this; exact this
      have HBD : Hid (∀ x : Nat, 0 ≤ (countsL (ps.take i) L)[x]?.getD 0 ∧ (countsL (ps.take i) L)[x]?.getD 0 ≤ 5940) := fun x => fitP_counts (by rw [HLN.out]; exact HV.out) i x
      have HZ : Hid (∀ z ∈ pl, 0 ≤ z ∧ z < (N : Int)) := (vB_mem hvN).2.2
      obtain ⟨cs, hcs⟩ : ∃ cs, countsL (ps.take i) L = cs := ⟨_, rfl⟩
      have hcl : cs.length = N := by rw [← hcs, countsL_length]; exact HLN.out
      rw [hcs] at hO HNX HBD
      rw [ht] at c0
      rw [hm] at c1
      have HPL := Lib.hid hpl
      have HK := Lib.hid hk
      have J3 := Lib.hid (HJ.out.below hBw)
      clear ht hpl hm hBw hcs hips hvN hk
      go_wp2_with fail
      refine (specParse_as t pl _ _ hst HPL.out rfl).mono ?_
      rintro e w4 ⟨a4, c4, rfl, ho4, hb4⟩
      have cm : w4.cell? ⟨b, off + i * 2 + 1, none⟩ = some (.int .i64 m) := (hb4.cell (p := ⟨b, off + i * 2 + 1, none⟩) hb).trans c1
      have hO4 : Hid (w4.ownsRow g 3 1 (.slice (some ⟨g, 0, none⟩) N N) N (cs.map (Value.int .i64))) := owns_under hO.out hb4
      have hgl : g < wr.heap.size := (hO.out.lt g rfl).2
      have B4 : Below g w w4 := hB.trans (hb4.mono hgr)
      have I4 := Lib.hid (IsInts.of_owned ho4 (by omega))
      have J4 := Lib.hid (J3.out.below hb4)
      have hbg : b < g := by rw [← HG.out]; exact hbw
      clear ho4 hb4 hO hB c0 c1 hgr hb J3
      go_wp2_with fail
      refine (l1First_any _ _ _ pl _ _ _ L _ I4.out J4.out HZ.out).mono ?_
      rintro e w5 ⟨he, rfl⟩
      rw [HK.out] at he
      subst he
      clear I4 J4
      rcases hkr with rfl | ⟨hk0, hkN⟩
      · have hO6 : Hid (w4.ownsRow g 3 1 (.slice (some ⟨g, 0, none⟩) N N) N ((countsL (ps.take (i + 1)) L).map (Value.int .i64))) := by
          unfold Hid; rw [HNX.out, if_pos (by omega)]; exact hO4.out
        clear hO4
        go_wp2
        go_roundw
        case rel => exact ⟨i + 1, by omega, by go_num, hO6, B4⟩
        case measure => simp [intOf]; omega
      · obtain ⟨x, rfl⟩ := Int.eq_ofNat_of_zero_le hk0
        have hxN : x < N := by omega
        have hneg : decide ((x : Int) < 0) = false := decide_eq_false (by omega)
        obtain ⟨cv, hcv⟩ : ∃ cv, cs[x]?.getD 0 = cv := ⟨_, rfl⟩
        have hcvb : 0 ≤ cv ∧ cv ≤ 5940 := by have := HBD.out x; rw [hcv] at this; exact this
        have hcell : w4.cell? ⟨g, x, none⟩ = some (.int .i64 cv) := by
          rw [hO4.out.cellAt x (by omega), ← hcv]
          have : x < cs.length := by omega
          simp [this]
        have hfz : w4.drew.frozen? ⟨g, x, none⟩ = false := hO4.out.frozenAt x
        have hcd : w4.drew.cell? ⟨g, x, none⟩ = some (.int .i64 cv) := hcell
        have cmd : w4.drew.cell? ⟨b, off + i * 2 + 1, none⟩ = some (.int .i64 m) := cm
        have O7 : Hid ((w4.drew.setCell ⟨g, x, none⟩ (.int .i64 (cv + m))).ownsRow g 3 1 (.slice (some ⟨g, 0, none⟩) N N) N ((countsL (ps.take (i + 1)) L).map (Value.int .i64))) := by
          have h1 := (hO4.out.stored x (.int .i64 (cv + m))).1
          unfold Hid
          rw [HNX.out, if_neg (by omega), Int.toNat_natCast, hcv, ← map_set_int]
          exact h1
        have B7 : Below g w (w4.drew.setCell ⟨g, x, none⟩ (.int .i64 (cv + m))) := (B4.drew).setCell (p := ⟨g, x, none⟩) (Nat.le_refl _) _
        have hxi : (x : Int) < (N : Int) := by omega
        clear hcv hO4 HNX
        have hli : (i : Int) < (len : Int) := by omega
        go_wp2_with fail
        refine region_quiet_tail 13 (by kernel_rfl) (by kernel_rfl) ?_
        simp only [List.take_succ_cons, List.take_zero, List.drop_succ_cons, List.drop_zero]
        repeat (go_big_quiet_step (fail))
        refine wpQuiet_nil ?_
        generalize w4.drew = w6 at O7 B7 hcd hfz cmd ⊢
        go_wp2
        go_roundw
        case rel => exact ⟨i + 1, by omega, by go_num, O7, B7⟩
        case measure => simp [intOf]; omega
    · obtain rfl : i = len := by omega
      have hO9 : Hid (wr.ownsRow g 3 1 (.slice (some ⟨g, 0, none⟩) N N) N ((countsL ps L).map (Value.int .i64))) := by
        have := hO.out; rw [List.take_of_length_le (by rw [H1.out]; exact Nat.le_refl _)] at this; exact this
      go_wp2
      go_ret
      exact ⟨g, rfl, HG.out.symm ▸ hO9.out, hBw⟩

set_option maxRecDepth 100000 in
set_option maxHeartbeats 2000000 in
/-- **spec.FirstCounts**. -/
theorem specCounts_as (a : Option Addr) (len cap : Nat) (ps : List Pl) (a' : Option Addr) (N cap' : Nat) (L : List Bool) (v : Bool) (l : List Int) (w : World) (h : IsPiles w a len cap ps) (hs : Small ps) (h' : IsBools w a' N cap' L) (hv : fitsB ps (N : Int) = v) (hl : (if v then countsL ps L else []) = l) :
    Calls Tq.prog 16 #[.slice a len cap, .slice a' N cap'] w (Told w l v) := by
  have HI := Lib.hid h
  have HS := Lib.hid hs
  have HJ := Lib.hid h'
  have HV := Lib.hid hv
  have hLN : L.length = N := h'.1
  have hNm : N ≤ 1048600 := h'.2.2.1
  clear h hs hv h'
  cases v
  · have e : l = [] := by rw [← hl]; rfl
    subst e
    clear hl hLN
    go_enter Tq.func16, Tq.ntmps16
    go_wp2_with fail
    refine (specFits_as _ _ _ ps (N : Int) false _ HI.out HS.out HV.out).mono ?_
    rintro e w1 ⟨rfl, hb⟩
    go_wp2
    go_ret2
    exact told_nil hb
  · have HL : Hid (countsL ps L = l) := by rw [Hid, ← hl]; rfl
    have hlen : (countsL ps L).length = N := by rw [countsL_length]; exact hLN
    clear hl hLN
    go_enter Tq.func16, Tq.ntmps16
    go_wp2_with fail
    refine (specFits_as _ _ _ ps (N : Int) true _ HI.out HS.out HV.out).mono ?_
    rintro e w1 ⟨rfl, hb⟩
    go_wp2_with fail
    refine (specCounts0_as _ _ _ ps _ N _ L _ (HI.out.below hb) HS.out (HJ.out.below hb) HV.out).mono ?_
    rintro e w2 ⟨g, rfl, ho, hb2⟩
    have HO := Lib.hid (ho.mono hb.size)
    have HB := Lib.hid (hb.trans (hb2.mono hb.size))
    clear ho hb hb2
    go_wp2
    go_ret2
    rw [HL.out] at hlen
    rw [HL.out] at HO
    rw [Told, hlen]
    exact ⟨some ⟨g, 0, none⟩, N, rfl, HO.out, HB.out⟩

end Go.Proofs.Ytgkakgibgfehaaa

namespace Go.Proofs.Ytgkakgibgfehaaa
open Go.RowKit

set_option maxHeartbeats 1000000 in
/-- **sameInts**: whether two lists are equal. -/
theorem sameInts_any (a : Option Addr) (len cap : Nat) (zs : List Int) (b : Option Addr) (len' cap' : Nat) (ys : List Int) (w : World) (h : IsInts w a len cap zs) (h' : IsInts w b len' cap' ys) :
    Calls Tq.prog 17 #[.slice a len cap, .slice b len' cap'] w fun e w' => e = .returned (.bool (eqB zs ys)) ∧ Dr w w' := by
  by_cases hl : len = len'
  · subst hl
    have hne : ((len : Int) != (len : Int)) = false := by simp
    have hm := h.2.2.1
    have H := Lib.hid h; clear h
    have H' := Lib.hid h'; clear h'
    go_enter Tq.func17, Tq.ntmps17
    go_wp2
    go_loopw [5] (fun i wr => ∃ k : Nat, k ≤ len ∧ i = .int .i64 k ∧ Hid (zs.take k = ys.take k) ∧ Dr w wr) (fun i _ => len - (intOf i).toNat)
    case atStart => exact ⟨0, Nat.zero_le _, rfl, by simp [Hid], Dr.refl _⟩
    case round =>
      obtain ⟨k, hk, rfl, ht, hd⟩ := hrel
      obtain ⟨h1, _, _, h4⟩ := H.out.dr hd
      obtain ⟨g1, _, _, g4⟩ := H'.out.dr hd
      have H1 := Lib.hid h1; clear h1
      have G1 := Lib.hid g1; clear g1
      by_cases hlt : k < len
      · obtain ⟨b1, o1, rfl, hb1, hc1⟩ := h4 (by omega)
        obtain ⟨b2, o2, rfl, hb2, hc2⟩ := g4 (by omega)
        have hz := hc1 k hlt
        have hy := hc2 k hlt
        clear hc1 hc2 h4 g4
        cases he : (zs[k]?.getD 0 == ys[k]?.getD 0)
        · have hn : (zs[k]?.getD 0 != ys[k]?.getD 0) = true := by simp [bne, he]
          have HE := Lib.hid he; clear he
          go_wp2
          go_quiet (fail)
          go_wp2
          go_ret
          exact ⟨ret_bool (take_part zs ys k HE.out).symm, hd.drewN _⟩
        · have hn : (zs[k]?.getD 0 != ys[k]?.getD 0) = false := by simp [bne, he]
          have HE := Lib.hid he; clear he
          go_wp2
          go_quiet (fail)
          go_wp2
          go_roundw
          case rel => exact ⟨k + 1, by omega, by go_num, take_step zs ys k (by rw [H1.out]; omega) (by rw [G1.out]; omega) ht.out (by simpa using HE.out), hd.drewN _⟩
          case measure => simp [intOf]; omega
      · obtain rfl : k = len := by omega
        clear h4 g4
        go_wp2
        go_ret
        refine ⟨ret_bool ?_, hd⟩
        have := ht.out
        rw [List.take_of_length_le (by rw [H1.out]; omega), List.take_of_length_le (by rw [G1.out]; omega)] at this
        rw [this, eqB_self]
  · have hne : ((len : Int) != (len' : Int)) = true := by rw [bne_iff_ne]; omega
    have e : eqB zs ys = false := by
      simp only [eqB, decide_eq_false_iff_not]
      rintro rfl
      exact hl (h.1.symm.trans h'.1)
    rw [e]
    clear e h h' hl
    go_enter Tq.func17, Tq.ntmps17
    go_wp2
    go_ret
    exact ⟨rfl, Dr.refl _⟩

end Go.Proofs.Ytgkakgibgfehaaa

namespace Go.Proofs.Ytgkakgibgfehaaa
open Go.RowKit

theorem sameInts_fst (a : Option Addr) (len cap : Nat) (zs : List Int) (b : Option Addr) (cap' : Nat) (w : World) (h : IsInts w a len cap zs) (h' : IsInts w b len cap' zs) :
    Calls Tq.prog 17 #[.slice a len cap, .slice b len cap'] w fun e w' => e = .returned (.bool true) ∧ Dr w w' :=
  (sameInts_any a len cap zs b len cap' zs w h h').mono fun e w' ⟨he, hd⟩ => ⟨by rw [he, eqB_self], hd⟩
/-- **impl.FirstCounts**, its answer named. -/
theorem implCounts_to (pa : Option Addr) (l ca : Nat) (ps : List Pl) (pb : Option Addr) (m cb : Nat) (L : List Bool) (v : Bool) (zs : List Int) (w : World) (hps : IsPiles w pa l ca ps) (hsm : Small ps) (hbs : IsBools w pb m cb L) (hv : fitsB ps (m : Int) = v) (hz : (if v then countsL ps L else []) = zs) :
    Calls Tq.prog 15 #[.slice pa l ca, .slice pb m cb] w fun e w' => ∃ a c, e = .returned (.tuple #[.slice a zs.length c, .bool v]) ∧ IsInts w' a zs.length c zs ∧ Below w.heap.size w w' := by
  have hm : L.length = m := hbs.1
  have hmx := hbs.2.2.1
  refine (implCounts_as pa l ca ps pb m cb L v w hps hsm hbs hv).mono fun e w' ⟨hb, hc⟩ => ?_
  rcases hc with ⟨rfl, rfl⟩ | ⟨rfl, g, rfl, ho⟩
  · subst hz
    exact ⟨none, 0, rfl, ⟨rfl, Nat.le_refl _, Nat.zero_le _, fun h => absurd h (by simp)⟩, hb⟩
  · have hl : zs.length = m := by rw [← hz, if_pos rfl, countsL_length, hm]
    rw [if_pos rfl] at hz
    rw [hz] at ho
    rw [hl]
    exact ⟨_, _, rfl, IsInts.of_owned ho hmx, hb⟩
/-- What counts that fit keep. -/
theorem fst_facts {ps : List Pl} {L : List Bool} (h : fitsB ps (L.length : Int) = true) : (countsL ps L).length = L.length ∧ (∀ x : Nat, x < L.length → L[x]?.getD false = true → (countsL ps L)[x]?.getD 0 = 0) ∧ (∀ x : Nat, 0 ≤ (countsL ps L)[x]?.getD 0 ∧ (countsL ps L)[x]?.getD 0 ≤ 5940) ∧
    totI (countsL ps L) ≤ sumL ps ∧ totalL ps = sumL ps := by
  obtain ⟨h1, h2, -, -⟩ := fits_fitP h
  refine ⟨countsL_length _ _, fun x hx hL => counts_left hx hL, fun x => ?_, counts_most fun p hp => (h1 p hp).2.2.1, ?_⟩
  · have := fitP_counts h ps.length x
    rwa [List.take_length] at this
  · have hp := (fits_parts h).1
    rw [totalL, hp]; rfl
end Go.Proofs.Ytgkakgibgfehaaa

namespace Go.Proofs.Ytgkakgibgfehaaa
open Go.RowKit

end Go.Proofs.Ytgkakgibgfehaaa

namespace Go.Proofs.Ytgkakgibgfehaaa
open Go.RowKit

theorem kept_below {w w5 : World} {t : TypeId} {n c : Nat} (h : (w.alloc (.cells #[] t)).drew.grownBy w5 (Value.slice (some ⟨w.heap.size, 0, none⟩) n c).ownBlock) : Below w.heap.size w w5 :=
  ((Below.refl w.heap.size w).alloc (Nat.le_refl _) _).drew.grown h (by show w.heap.size ≤ (w.alloc _).heap.size; simp) (fun k e => by
    have : (some w.heap.size : Option Nat) = some k := e
    injection this with e2
    omega)

end Go.Proofs.Ytgkakgibgfehaaa

namespace Go.Proofs.Ytgkakgibgfehaaa
open Go.RowKit

attribute [local go_sem] Oper.semAt_some

end Go.Proofs.Ytgkakgibgfehaaa

namespace Go.Proofs.Ytgkakgibgfehaaa
open Go.RowKit

attribute [local go_sem] Oper.semAt_some

theorem totI_take {zs : List Int} {k : Nat} (h : k < zs.length) : totI (zs.take (k + 1)) = totI (zs.take k) + zs[k]?.getD 0 := by
  have e : zs[k]?.getD 0 = zs[k] := by simp [h]
  rw [List.take_succ_eq_append_getElem h, totI_snoc, e]
theorem totI_bound {zs : List Int} (hb : ∀ x : Nat, 0 ≤ zs[x]?.getD 0 ∧ zs[x]?.getD 0 ≤ 100000) : ∀ k, k ≤ zs.length → 0 ≤ totI (zs.take k) ∧ totI (zs.take k) ≤ 100000 * (k : Int)
  | 0, _ => by simp [totI_nil]
  | k + 1, h => by
    have ih := totI_bound hb k (by omega)
    have := hb k
    rw [totI_take (by omega)]
    omega
set_option maxHeartbeats 2000000 in
/-- **sumOf**. -/
theorem sumOf_as (a : Option Addr) (len cap : Nat) (zs : List Int) (s : Int) (w : World) (h : IsInts w a len cap zs) (hl : len ≤ 20) (hb : ∀ x : Nat, 0 ≤ zs[x]?.getD 0 ∧ zs[x]?.getD 0 ≤ 100000) (hs : totI zs = s) :
    Calls Tq.prog 18 #[.slice a len cap] w fun e w' => e = .returned (.int .i64 s) ∧ w = w' := by
  obtain ⟨h1, h2, h3, h4⟩ := h
  have H1 := Lib.hid h1
  have H4 := Lib.hid h4
  have HB := Lib.hid hb
  have HS := Lib.hid hs
  clear h1 h4 hb hs
  go_enter Tq.func18, Tq.ntmps18
  go_wp2
  go_loop [3, 4] (fun nv iv => ∃ (i : Nat) (t : Int), i ≤ len ∧ iv = .int .i64 (i : Int) ∧ nv = .int .i64 t ∧ Hid (totI (zs.take i) = t)) (fun _ iv => len - (intOf iv).toNat)
  case atStart => exact ⟨0, 0, Nat.zero_le _, rfl, rfl, by unfold Hid; simp [totI_nil]⟩
  case round =>
    obtain ⟨i, t, hil, rfl, rfl, hT⟩ := hrel
    by_cases hlt : i < len
    · obtain ⟨b, off, rfl, hb, hc⟩ := H4.out (by omega)
      have ci := hc i hlt
      obtain ⟨z, hz⟩ : ∃ z, zs[i]?.getD 0 = z := ⟨_, rfl⟩
      have hzb := HB.out i
      have htb := totI_bound HB.out i (by rw [H1.out]; omega)
      rw [hT.out] at htb
      rw [hz] at ci hzb
      have HT2 : Hid (totI (zs.take (i + 1)) = t + z) := by rw [Hid, totI_take (by rw [H1.out]; exact hlt), hz, hT.out]
      clear hc hz
      go_wp2
      go_round
      case rel => exact ⟨i + 1, t + z, by omega, by go_num, rfl, HT2⟩
      case measure => simp [intOf]; omega
    · obtain rfl : i = len := by omega
      have HE : Hid (t = s) := by rw [Hid, ← HS.out, ← hT.out, List.take_of_length_le (by rw [H1.out]; exact Nat.le_refl _)]
      go_wp2
      go_ret
      exact ⟨ret_int HE.out, rfl⟩

end Go.Proofs.Ytgkakgibgfehaaa
