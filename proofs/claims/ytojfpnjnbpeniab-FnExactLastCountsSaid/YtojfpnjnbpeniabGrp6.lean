/-
  impl.PilesAdd: for lists of piles with texts of at most 1048600 bytes; what it returns is memory of its own.
  spec.BallotText and impl.BallotText answer alike: for every ballot of at most 1048600 ints; neither writes into memory that was there.
  impl.turnedText and spec.l3Turn: two candidates of a ballot are exchanged.
  impl.PilesTurn: for lists of piles with texts of at most 1048600 bytes; what it returns is memory of its own.
  spec.l3Turn and spec.PilesTurn: for lists of piles with texts of at most 1048600 bytes; what they return is memory of their own.
  What the drawn statements of piles share.
  The exact statements' own functions over piles: sizes, copies, comparison.
  A slice of the exact statements' own piles that came in.
-/
import Derived.Test.YtojfpnjnbpeniabGrp5
import Derived.Test.YtojfpnjnbpeniabGrp3
import Derived.Test.YtojfpnjnbpeniabGrp2
import Derived.Test.YtojfpnjnbpeniabGrp4
import Derived.Deep.RegionHeld3
import Derived.Deep.RegionWith
import Derived.Deep.SlicePairs
namespace Go.Proofs.Ytojfpnjnbpeniab
open Go.RowKit Go.Maps

theorem tAt_one (t : ByteArray) (m : Int) : tAt [(t, m)] 0 = t := rfl
theorem mAt_one (t : ByteArray) (m : Int) : mAt [(t, m)] 0 = m := rfl
theorem piles_one (t : ByteArray) (m : Int) : pilesB [(t, m)] = pileB t m := by
  rw [pilesB, show ([(t, m)] : List Pl).length = 0 + 1 from rfl, ascTo_succ, tAt_one, mAt_one]
  simp [ascTo]
theorem join_one (ps : List Pl) (t : ByteArray) (m : Int) : joinB ps [(t, m)] = addB ps t m := by rw [joinB, addB, piles_one]; rfl
theorem joinL_one (ps : List Pl) (t : ByteArray) (m : Int) : joinL ps [(t, m)] = addL ps t m := by rw [joinL, addL, join_one]; rfl
theorem one_piles {w : World} {g : Nat} {t : ByteArray} {m : Int} (hg : g < w.heap.size) (h0 : w.cell? ⟨g, 0, none⟩ = some (.string t)) (h1 : w.cell? ⟨g, 1, none⟩ = some (.int .i64 m)) : IsPiles w (some ⟨g, 0, none⟩) 1 1 [(t, m)] :=
  ⟨rfl, Nat.le_refl _, by omega, fun _ => ⟨g, 0, rfl, hg, fun j hj => by
    obtain rfl : j = 0 := by omega
    exact ⟨h0, h1⟩⟩⟩
theorem Small.one {t : ByteArray} {m : Int} (h : t.size ≤ 1048600) : Small [(t, m)] := Small.of fun p hp => by simp at hp; subst hp; exact h
theorem GaveP.up {w w1 : World} {r : List Pl} {ok : Bool} {e : Ending} {w' : World} (h : GaveP w1 r ok e w') (hb : Below w.heap.size w w1) : GaveP w r ok e w' := by
  obtain ⟨a, cap, he, ho, hB, hn⟩ := h
  exact ⟨a, cap, he, ho.mono hb.size, hb.trans (hB.mono hb.size), hn⟩

end Go.Proofs.Ytojfpnjnbpeniab

namespace Go.Proofs.Ytojfpnjnbpeniab
open Go.RowKit Go.Shelf

attribute [local go_sem] Oper.semAt_some

end Go.Proofs.Ytojfpnjnbpeniab

namespace Go.Proofs.Ytojfpnjnbpeniab
open Go.RowKit

/-- The first k are exchanged. -/
def mixed (x y : Int) (zs : List Int) (k : Nat) : List Int := (zs.take k).map (swapC x y) ++ zs.drop k
theorem mixed_zero (x y : Int) (zs : List Int) : mixed x y zs 0 = zs := by simp [mixed]
theorem mixed_all (x y : Int) (zs : List Int) : mixed x y zs zs.length = turnB x y zs := by simp [mixed, turnB]
theorem mixed_length (x y : Int) (zs : List Int) (k : Nat) (hk : k ≤ zs.length) : (mixed x y zs k).length = zs.length := by simp [mixed]; omega
theorem mixed_at (x y : Int) (zs : List Int) (k : Nat) (hk : k < zs.length) : (mixed x y zs k)[k]?.getD 0 = zs[k]?.getD 0 := by
  unfold mixed
  rw [List.getElem?_append_right (by simp; omega)]
  simp [show min k zs.length = k by omega]
theorem mixed_step (x y : Int) (zs : List Int) (k : Nat) (hk : k < zs.length) {z : Int} (hz : zs[k]?.getD 0 = z) : ((mixed x y zs k).map (Value.int .i64)).set k (.int .i64 (swapC x y z)) = (mixed x y zs (k + 1)).map (Value.int .i64) := by
  have e : zs[k] = z := by rw [← hz]; simp [hk]
  unfold mixed
  rw [List.take_succ_eq_append_getElem hk, List.drop_eq_getElem_cons hk, e]
  simp only [List.map_append, List.map_cons, List.map_nil, List.append_assoc, List.cons_append, List.nil_append]
  rw [List.set_append_right _ _ (by simp; omega)]
  simp [show min k zs.length = k by omega]
theorem mixed_keep (x y : Int) (zs : List Int) (k : Nat) (hk : k < zs.length) {z : Int} (hz : zs[k]?.getD 0 = z) (he : swapC x y z = z) : mixed x y zs k = mixed x y zs (k + 1) := by
  have e : zs[k] = z := by rw [← hz]; simp [hk]
  unfold mixed
  rw [List.take_succ_eq_append_getElem hk, List.drop_eq_getElem_cons hk, e]
  simp [he]

end Go.Proofs.Ytojfpnjnbpeniab

namespace Go.Proofs.Ytojfpnjnbpeniab
open Go.RowKit Go.Maps

theorem Below.grownBy {w w' : World} (h : Below w.heap.size w w') : w.grownBy w' none := ⟨h.os, h.tape, h.output, h.size, fun k hk _ => h.block k hk⟩
/-- The piles, each with its text exchanged. -/
def tps (x y : Int) (ps : List Pl) : List Pl := ps.map fun p => (turnT x y p.1, p.2)
theorem tps_length (x y : Int) (ps : List Pl) : (tps x y ps).length = ps.length := by simp [tps]
theorem tAt_tps {x y : Int} {ps : List Pl} {k : Nat} (h : k < ps.length) : tAt (tps x y ps) k = turnT x y (tAt ps k) := by simp [tAt, tps, h]
theorem mAt_tps {x y : Int} {ps : List Pl} {k : Nat} (h : k < ps.length) : mAt (tps x y ps) k = mAt ps k := by simp [mAt, tps, h]
theorem mem_at {ps : List Pl} {k : Nat} (h : k < ps.length) : (tAt ps k, mAt ps k) ∈ ps := by
  have e : (tAt ps k, mAt ps k) = ps[k] := by simp [tAt, mAt, h]
  rw [e]; exact List.getElem_mem h
theorem tps_new {x y : Int} (hx : 0 ≤ x ∧ x ≤ 4) (hy : 0 ≤ y ∧ y ≤ 4) {ps : List Pl} (hv : pilesB ps = true) {k : Nat} (hk : k < ps.length) : ¬ ∃ p ∈ (tps x y ps).take k, p.1 = tAt (tps x y ps) k := by
  rintro ⟨p, hp, e⟩
  obtain ⟨i, hi, rfl⟩ := List.mem_iff_getElem.1 hp
  have hik : i < k := by have := hi; rw [List.length_take, tps_length] at this; omega
  have hil : i < ps.length := by omega
  have pv := pilesB_pos hv
  rw [tAt_tps hk] at e
  have e1 : ((tps x y ps).take k)[i].1 = turnT x y (tAt ps i) := by simp [tps, tAt, hil]
  rw [e1] at e
  have v1 := pv.2.2.2.1 _ (mem_at hil)
  have v2 := pv.2.2.2.1 _ (mem_at hk)
  have w1 := turnT_twice hx hy v1
  have w2 := turnT_twice hx hy v2
  have e2 : tAt ps i = tAt ps k := by
    have : turnT x y (turnT x y (tAt ps i)) = turnT x y (turnT x y (tAt ps k)) := by rw [e]
    exact w1.symm.trans (this.trans w2)
  exact tl_ne (asc_at pv.1 hik hk) e2
theorem txtB_short (zs : List Int) : (txtB zs).size ≤ zs.length := by
  unfold txtB
  split
  · rw [txtOf_size]; exact Nat.le_refl _
  · exact Nat.zero_le _
theorem turnT_short (x y : Int) (t : ByteArray) : (turnT x y t).size ≤ 5 := by
  refine Nat.le_trans (txtB_short _) ?_
  simp only [turnB, List.length_map]
  exact parseL_short t
theorem tps_pos {x y : Int} {ps : List Pl} (hv : pilesB ps = true) : ∀ p ∈ tps x y ps, 1 ≤ p.2 := fun p hp => by
  obtain ⟨q, hq, rfl⟩ := List.mem_map.1 hp
  exact (pilesB_pos hv).2.1 q hq
theorem turned_eq {x y : Int} {ts ps : List Pl} (h : Asc ts ∧ (∀ u, tot ts u = tot (tps x y ps) u) ∧ ∀ q ∈ ts, ∃ p ∈ tps x y ps, p.1 = q.1) (hv : pilesB ps = true) : ts = turnPs x y ps := by
  refine piles_ext h.1 (turnPs_asc x y ps) (fun q hq => ?_) (turnPs_pos (pilesB_pos hv).2.1) (fun u => ?_)
  · rw [← tot_mem h.1 q hq, h.2.1]; exact tot_pos (tps_pos hv) (h.2.2 q hq)
  · rw [h.2.1]; unfold turnPs; rw [tot_merge, tot_zero, Int.zero_add]; rfl

end Go.Proofs.Ytojfpnjnbpeniab

namespace Go.Proofs.Ytojfpnjnbpeniab
open Go.RowKit

theorem l6In_as (n lo hi : Int) (v : Bool) (w : World) (h : inB n lo hi = v) :
    Calls Try.prog 22 #[.int .i64 n, .int .i64 lo, .int .i64 hi] w fun e w' => e = .returned (.bool v) ∧ w = w' := by subst h; exact l6In_any n lo hi w
theorem turn_take {x y : Int} {zs : List Int} {k : Nat} (hk : k < zs.length) {z : Int} (hz : zs[k]?.getD 0 = z) : turnB x y (zs.take (k + 1)) = turnB x y (zs.take k) ++ [swapC x y z] := by
  have e : zs[k] = z := by rw [← hz]; simp [hk]
  rw [List.take_succ_eq_append_getElem hk, e]
  simp [turnB]
theorem ints_snoc (a : List Int) (z : Int) : (a ++ [z]).map (Value.int .i64) = a.map (Value.int .i64) ++ [.int .i64 z] := by simp

theorem mAt_turn {x y : Int} {ps : List Pl} (h : pilesB ps = true) (k i : Nat) : 0 ≤ mAt (mergeL [] ((tps x y ps).take k)) i ∧ mAt (mergeL [] ((tps x y ps).take k)) i ≤ 1000000 := by
  refine mAt_merge (xs := []) rfl (fun p hp => ?_) ?_ i
  · obtain ⟨q, hq, rfl⟩ := List.mem_map.1 (List.mem_of_mem_take hp)
    exact mem_valid h q hq
  · rw [List.length_take, tps_length]; have := (pilesB_pos h).2.2.2.2; omega

end Go.Proofs.Ytojfpnjnbpeniab

namespace Go.Proofs.Ytojfpnjnbpeniab
open Go.RowKit

theorem valid_len {ps : List Pl} (h : pilesB ps = true) : ps.length ≤ 12 := (pilesB_pos h).2.2.2.2
theorem addL_cases (ps : List Pl) (t : ByteArray) (m : Int) : addL ps t m = [] ∨ pilesB (addL ps t m) = true := by
  cases h : addB ps t m
  · left; rw [addL, h]; rfl
  · right; exact addL_valid h
theorem joinL_cases (xs ys : List Pl) : joinL xs ys = [] ∨ pilesB (joinL xs ys) = true := by
  cases h : joinB xs ys
  · left; rw [joinL, h]; rfl
  · right; rw [joinL, h]; exact ((joinB_iff xs ys).1 h).2.2
theorem canL_cases (ps : List Pl) (x y : Int) : canL ps x y = [] ∨ pilesB (canL ps x y) = true := by
  cases h : canB ps x y
  · left; rw [canL, h]; rfl
  · right; rw [canL, h]; have := (canB_iff ps x y).1 h; exact turn_valid this.2.1 this.2.2 this.1
theorem small_nil : Small [] := fun i => by simp [tAt]
theorem of_cases {r : List Pl} (h : r = [] ∨ pilesB r = true) : r.length ≤ 12 ∧ Small r := by
  rcases h with rfl | h
  · exact ⟨by simp, small_nil⟩
  · exact ⟨valid_len h, small_valid h⟩
theorem totalL_range (ps : List Pl) : -1 ≤ totalL ps ∧ totalL ps ≤ 13000000 := by
  unfold totalL
  cases h : pilesB ps
  · simp
  · have hm := mAt_wide (mAt_valid h)
    have := sum_bound hm ps.length (Nat.le_refl _)
    rw [List.take_length] at this
    have hl := valid_len h
    simp
    omega
theorem wrap_tot (a b : List Pl) : IntKind.i64.wrap (totalL a + totalL b) = totalL a + totalL b := IntWalk.i64_in _ (by have := totalL_range a; have := totalL_range b; omega)

end Go.Proofs.Ytojfpnjnbpeniab

namespace Go.Proofs.Ytojfpnjnbpeniab
open Go.RowKit

set_option maxHeartbeats 1000000 in
/-- **szPile**. -/
theorem szPile_any (t : ByteArray) (m L : Int) (w : World) (ht : t.size ≤ maxLen) (hL : 0 ≤ L ∧ L ≤ 1048576) :
    Calls Try.prog 13 #[.agg #[.string t, .int .i64 m], .int .i64 L] w fun e w' => ∃ v : Int, e = .returned (.int .i64 v) ∧ (0 ≤ v → v ≤ L ∧ t.size ≤ 1048576) ∧ v ≤ L ∧ -1 ≤ v ∧ Below w.heap.size w w' := by
  have hsz : (t.size : Int) ≤ 9223372036854775807 := by unfold maxLen at ht; omega
  have hw : IntKind.i64.wrap (L - (t.size : Int)) = L - (t.size : Int) := IntWalk.i64_in _ (by omega)
  have hB : Below w.heap.size w (w.alloc (.cells #[.string t, .int .i64 m] 36)) := (Below.refl _ w).alloc (Nat.le_refl _) _
  by_cases hneg : L - (t.size : Int) < 0
  · have hd : decide (L - (t.size : Int) < 0) = true := decide_eq_true hneg
    go_enter Try.func13, Try.ntmps13
    go_wp2
    go_ret
    exact ⟨-1, rfl, fun h => by omega, by omega, by omega, hB⟩
  · have hd : decide (L - (t.size : Int) < 0) = false := decide_eq_false hneg
    go_enter Try.func13, Try.ntmps13
    go_wp2
    go_ret
    exact ⟨_, rfl, fun h => ⟨by omega, by omega⟩, by omega, by omega, hB⟩

/-- Every text is a text of a machine. -/
def Held (ps : List Pl) : Prop := ∀ i, (tAt ps i).size ≤ maxLen

set_option maxRecDepth 100000 in
set_option maxHeartbeats 2000000 in
/-- **szPileS**: not negative only where every text is of at most 1048576 bytes. -/
theorem szPileS_any (a : Option Addr) (len cap : Nat) (ps : List Pl) (L : Int) (w : World) (h : IsPiles w a len cap ps) (hh : Held ps) (hL : 0 ≤ L ∧ L ≤ 1048576) :
    Calls Try.prog 4 #[.slice a len cap, .int .i64 L] w fun e w' => ∃ v : Int, e = .returned (.int .i64 v) ∧ (0 ≤ v → v ≤ 1048576 ∧ Small ps) ∧ -1 ≤ v ∧ Below w.heap.size w w' := by
  have HI := Lib.hid h
  have HH := Lib.hid hh
  have H1 := Lib.hid h.1
  have hm := h.2.2.1
  obtain ⟨G, hG⟩ : ∃ G, w.heap.size = G := ⟨_, rfl⟩
  clear h hh
  have hw : IntKind.i64.wrap (L - (len : Int)) = L - (len : Int) := IntWalk.i64_in _ (by omega)
  by_cases hneg : L - (len : Int) < 0
  · have hd : decide (L - (len : Int) < 0) = true := decide_eq_true hneg
    go_enter Try.func4, Try.ntmps4
    go_wp2
    go_ret
    exact ⟨-1, rfl, fun h => by omega, by omega, Below.refl _ _⟩
  · have hd : decide (L - (len : Int) < 0) = false := decide_eq_false hneg
    go_enter Try.func4, Try.ntmps4
    go_wp2
    go_loopw [1, 5] (fun l i wr => ∃ (k : Nat) (x : Int), k ≤ len ∧ i = .int .i64 k ∧ l = .int .i64 x ∧ 0 ≤ x ∧ x ≤ 1048576 ∧ Hid (∀ j, j < k → (tAt ps j).size ≤ 1048576) ∧ Below G w wr) (fun _ i _ => len - (intOf i).toNat)
    case atStart => exact ⟨0, _, Nat.zero_le _, rfl, rfl, by omega, by omega, fun j hj => by omega, Below.refl _ _⟩
    case round =>
      obtain ⟨k, x, hk, rfl, rfl, hx0, hx1, hA, hB⟩ := hrel
      have hBw : Below w.heap.size w wr := hG.symm ▸ hB
      by_cases hlt : k < len
      · obtain ⟨b, off, rfl, hb, c0, c1⟩ := (HI.out.below hBw).piles hlt
        obtain ⟨t, ht⟩ : ∃ t, tAt ps k = t := ⟨_, rfl⟩
        obtain ⟨m, hmm⟩ : ∃ m, mAt ps k = m := ⟨_, rfl⟩
        have hts : t.size ≤ maxLen := by rw [← ht]; exact HH.out k
        rw [ht] at c0
        rw [hmm] at c1
        have HT := Lib.hid ht
        clear ht hmm
        go_wp2_with fail
        refine (szPile_any t m x _ hts ⟨hx0, hx1⟩).mono ?_
        rintro e w1 ⟨v, rfl, hv, hvL, hv1, hb1⟩
        have B1 : Below G w w1 := hB.trans (hb1.mono (by have := hBw.size; omega))
        by_cases hvn : v < 0
        · have hd2 : decide (v < 0) = true := decide_eq_true hvn
          go_wp2
          go_ret
          exact ⟨-1, rfl, fun h => by omega, by omega, hG.symm ▸ B1⟩
        · have hd2 : decide (v < 0) = false := decide_eq_false hvn
          have hv2 := hv (by omega)
          have HA2 : Hid (∀ j, j < k + 1 → (tAt ps j).size ≤ 1048576) := fun j hj => by
            rcases Nat.lt_or_ge j k with g | g
            · exact hA.out j g
            · have : j = k := by omega
              subst this; rw [HT.out]; exact hv2.2
          clear hv
          go_wp2
          go_roundw
          case rel => exact ⟨k + 1, v, by omega, by go_num, rfl, by omega, by omega, HA2, B1⟩
          case measure => simp [intOf]; omega
      · obtain rfl : k = len := by omega
        go_wp2
        go_ret
        refine ⟨x, rfl, fun _ => ⟨hx1, fun i => ?_⟩, by omega, hBw⟩
        rcases Nat.lt_or_ge i k with g | g
        · have := hA.out i g; omega
        · unfold tAt
          rw [List.getElem?_eq_none (by rw [H1.out]; exact g)]
          simp

set_option maxHeartbeats 1000000 in
/-- **toPile**. -/
theorem toPile_any (t : ByteArray) (m : Int) (w : World) :
    Calls Try.prog 16 #[.agg #[.string t, .int .i64 m]] w fun e w' => e = .returned (.agg #[.string t, .int .i64 m]) ∧ Below w.heap.size w w' := by
  go_enter Try.func16, Try.ntmps16
  go_wp2
  refine bodyPost_ret (results_cell_row rfl _ _ (w.heap.size + 1) 39 #[.string t, .int .i64 m] (0, 0) _ rfl ?_ Try.underlying39 rfl (by kernel_rfl)) rfl ?_
  · rw [heap_alloc_old _ _ (by simp), heap_alloc2_new]
  · exact ⟨rfl, (((Below.refl _ w).alloc (Nat.le_refl _) _).alloc (by simp) _).alloc (by simp; omega) _⟩

/-- The first k piles, then empty ones. -/
def fillP (ps : List Pl) (len k : Nat) : List Pl := ps.take k ++ List.replicate (len - k) (ByteArray.empty, 0)
theorem fillP_length {ps : List Pl} {len k : Nat} (h : ps.length = len) (hk : k ≤ len) : (fillP ps len k).length = len := by simp [fillP]; omega
theorem fillP_all {ps : List Pl} {len : Nat} (h : ps.length = len) : fillP ps len len = ps := by simp [fillP, ← h]
theorem fillP_step {ps : List Pl} {len k : Nat} (h : ps.length = len) (hk : k < len) : (fillP ps len k).set k (tAt ps k, mAt ps k) = fillP ps len (k + 1) := by
  have e : len - k = (len - (k + 1)) + 1 := by omega
  unfold fillP
  rw [e, List.replicate_succ, take_one (by omega)]
  have hl : (ps.take k).length = k := by simp; omega
  rw [List.set_append_right _ _ (by omega), hl, Nat.sub_self, List.set_cons_zero]
  simp
theorem cells_set2 {ps : List Pl} {k : Nat} {t : ByteArray} {m : Int} (h : k < ps.length) : ((cellsP ps).set (k * 2) (.string t)).set (k * 2 + 1) (.int .i64 m) = cellsP (ps.set k (t, m)) := by
  rw [cellsP_setT ps k t h, cellsP_set _ k m (by simpa using h)]
  congr 1
  rw [List.set_set]
  simp [tAt, h]
theorem cells_made (len : Nat) : (madeCells (Value.agg #[.string ⟨#[]⟩, .int .i64 0]).cells (len * 2)).toList = cellsP (List.replicate len (ByteArray.empty, 0)) := by
  apply List.ext_getElem?
  intro j
  by_cases hj : j < len * 2
  · have h2 : (madeCells (Value.agg #[.string ⟨#[]⟩, .int .i64 0]).cells (len * 2)).toList[j]? = some (#[Value.string ⟨#[]⟩, .int .i64 0][j % 2]!) := by
      rw [Array.getElem?_toList]
      simp [madeCells, hj, Value.cells]
    rw [h2]
    have hi : j / 2 < (List.replicate len ((ByteArray.empty, 0) : Pl)).length := by simp; omega
    rcases Nat.mod_two_eq_zero_or_one j with h | h
    · have := cellsP_text (List.replicate len (ByteArray.empty, 0)) (j / 2) hi
      rw [show j / 2 * 2 = j by omega] at this
      rw [this, h]
      simp at hi
      simp [tAt, hi]
      rfl
    · have := cellsP_many (List.replicate len (ByteArray.empty, 0)) (j / 2) hi
      rw [show j / 2 * 2 + 1 = j by omega] at this
      rw [this, h]
      simp at hi
      simp [mAt, hi]
  · rw [List.getElem?_eq_none (by simp [size_madeCells]; omega), List.getElem?_eq_none (by rw [cellsP_length]; simp; omega)]

set_option maxRecDepth 100000 in
set_option maxHeartbeats 4000000 in
/-- **toPileS**: a new slice with the same piles. -/
theorem toPileS_any (a : Option Addr) (len cap : Nat) (ps : List Pl) (w : World) (h : IsPiles w a len cap ps) :
    Calls Try.prog 6 #[.slice a len cap] w fun e w' => ∃ g, e = .returned (.slice (some ⟨g, 0, none⟩) len len) ∧ w'.ownsRow w.heap.size 39 2 (.slice (some ⟨g, 0, none⟩) len len) len (cellsP ps) ∧ Below w.heap.size w w' := by
  obtain ⟨i0, hi, hz0, hz1, hz2⟩ := info_parts pile_info
  have HI := Lib.hid h
  have H1 := Lib.hid h.1
  have hm : len ≤ 1048600 := h.2.2.1
  obtain ⟨G, hG⟩ : ∃ G, w.heap.size = G := ⟨_, rfl⟩
  clear h
  go_enter Try.func6, Try.ntmps6
  go_wp2_with (at_make; refine wpList_make_full _ rfl _ _ 27 rfl w.heap.size 39 i0 (.agg #[.string ⟨#[]⟩, .int .i64 0]) 2 Try.underlying27 hi hz0 hz1 .i64 .i64 _ _ len rfl rfl rfl rfl (by rw [hz2]; omega) (by unfold maxLen; omega) (Nat.le_refl _) ?_; intro w1 hown hgrow)
  have hB1 : Below G w w1 := by rw [← hG]; exact (Below.refl _ w).grown hgrow (Nat.le_refl _) (fun k e => by cases e)
  have HO : Hid (w1.ownsRow G 39 2 (.slice (some ⟨G, 0, none⟩) len len) len (cellsP (fillP ps len 0))) := by
    unfold Hid
    have e : (madeCells (Value.agg #[.string ⟨#[]⟩, .int .i64 0]).cells (len * 2)).toList = cellsP (fillP ps len 0) := by rw [cells_made]; simp [fillP]
    rw [← e, ← hG]; exact hown
  clear hown hgrow hi hz0 hz1 hz2
  go_wp2
  go_loopw [4] (fun i wr => ∃ k : Nat, k ≤ len ∧ i = .int .i64 k ∧ Hid (wr.ownsRow G 39 2 (.slice (some ⟨G, 0, none⟩) len len) len (cellsP (fillP ps len k))) ∧ Below G w wr) (fun i _ => len - (intOf i).toNat)
  case atStart => exact ⟨0, Nat.zero_le _, rfl, HO, hB1⟩
  case round =>
    obtain ⟨k, hk, rfl, ho, hB⟩ := hrel
    have hBw : Below w.heap.size w wr := hG.symm ▸ hB
    have hGw : G ≤ wr.heap.size := by have := hBw.size; omega
    by_cases hlt : k < len
    · obtain ⟨b, off, rfl, hb, c0, c1⟩ := (HI.out.below hBw).piles hlt
      obtain ⟨t, ht⟩ : ∃ t, tAt ps k = t := ⟨_, rfl⟩
      obtain ⟨m, hmm⟩ : ∃ m, mAt ps k = m := ⟨_, rfl⟩
      have HST : Hid ((fillP ps len k).set k (t, m) = fillP ps len (k + 1)) := by rw [Hid, ← ht, ← hmm]; exact fillP_step H1.out hlt
      have hkf : k < (fillP ps len k).length := by rw [fillP_length H1.out hk]; exact hlt
      rw [ht] at c0
      rw [hmm] at c1
      clear ht hmm
      go_wp2_with fail
      refine (toPile_any t m _).mono ?_
      rintro e w1 ⟨rfl, hb1⟩
      have O1 := Lib.hid (owns_below ho.out hb1)
      have B1 := Lib.hid (hB.trans (hb1.mono hGw))
      have x0 : w1.cell? ⟨G, k * 2, none⟩ = some (.string (tAt (fillP ps len k) k)) := by rw [O1.out.cellAt (k * 2) (by omega)]; exact cellsP_text _ k hkf
      have x1 : w1.cell? ⟨G, k * 2 + 1, none⟩ = some (.int .i64 (mAt (fillP ps len k) k)) := by rw [O1.out.cellAt (k * 2 + 1) (by omega)]; exact cellsP_many _ k hkf
      have f0 : w1.frozen? ⟨G, k * 2, none⟩ = false := O1.out.frozenAt (k * 2)
      have f1 : w1.frozen? ⟨G, k * 2 + 1, none⟩ = false := O1.out.frozenAt (k * 2 + 1)
      have S1 := Lib.hid (O1.out.stored (k * 2) (.string t))
      have S2 := Lib.hid (S1.out.1.stored (k * 2 + 1) (.int .i64 m))
      have hGw1 : G ≤ w1.heap.size := by have := B1.out.size; omega
      have BB := Lib.hid ((B1.out.grown S1.out.2 hGw1 (fun i ei => by cases ei; exact Nat.le_refl _)).grown S2.out.2 (Nat.le_trans hGw1 S1.out.2.size) (fun i ei => by cases ei; exact Nat.le_refl _))
      clear hb1
      go_wp2
      go_roundw
      case rel => exact ⟨k + 1, by omega, by go_num, by rw [Hid, ← HST.out, ← cells_set2 hkf]; exact S2.out.1, BB.out⟩
      case measure => simp [intOf]; omega
    · obtain rfl : k = len := by omega
      rw [fillP_all H1.out] at ho
      go_wp2
      go_ret
      exact ⟨G, rfl, by rw [hG]; exact ho.out, hBw⟩

set_option maxHeartbeats 2000000 in
/-- **eqPile**. -/
theorem eqPile_any (t1 : ByteArray) (m1 : Int) (t2 : ByteArray) (m2 : Int) (v : Bool) (w : World) (hv : (decide (t1 = t2) && decide (m1 = m2)) = v) :
    Calls Try.prog 18 #[.agg #[.string t1, .int .i64 m1], .agg #[.string t2, .int .i64 m2]] w fun e w' => e = .returned (.bool v) ∧ Below w.heap.size w w' := by
  have hB : Below w.heap.size w ((w.alloc (.cells #[.string t1, .int .i64 m1] 39)).alloc (.cells #[.string t2, .int .i64 m2] 39)) := ((Below.refl _ w).alloc (Nat.le_refl _) _).alloc (by simp) _
  by_cases ht : t1 = t2
  · subst ht
    by_cases hm : m1 = m2
    · subst hm
      have HV : Hid (v = true) := by rw [Hid, ← hv]; simp
      have e1 : (t1.toList != t1.toList) = false := by simp
      have e2 : (m1 != m1) = false := by simp
      clear hv
      go_enter Try.func18, Try.ntmps18
      go_wp2
      go_ret
      exact ⟨ret_bool HV.out.symm, hB⟩
    · have HV : Hid (v = false) := by rw [Hid, ← hv]; simp [hm]
      have e1 : (t1.toList != t1.toList) = false := by simp
      have e2 : (m1 != m2) = true := by simp [hm]
      clear hv
      go_enter Try.func18, Try.ntmps18
      go_wp2
      go_ret
      exact ⟨ret_bool HV.out.symm, hB⟩
  · have HV : Hid (v = false) := by rw [Hid, ← hv]; simp [ht]
    have e0 : (t1.toList == t2.toList) = false := by rw [eq_text]; exact decide_eq_false ht
    have e1 : (t1.toList != t2.toList) = true := by rw [bne, e0]; rfl
    clear hv
    go_enter Try.func18, Try.ntmps18
    go_wp2
    go_ret
    exact ⟨ret_bool HV.out.symm, hB⟩

set_option maxRecDepth 100000 in
set_option maxHeartbeats 4000000 in
/-- **eqPileS**. -/
theorem eqPileS_as (a1 : Option Addr) (l1 c1 : Nat) (xs : List Pl) (a2 : Option Addr) (l2 c2 : Nat) (ys : List Pl) (v : Bool) (w : World) (h : IsPiles w a1 l1 c1 xs) (h' : IsPiles w a2 l2 c2 ys) (hv : eqP xs ys = v) :
    Calls Try.prog 9 #[.slice a1 l1 c1, .slice a2 l2 c2] w fun e w' => e = .returned (.bool v) ∧ Below w.heap.size w w' := by
  have HI := Lib.hid h
  have HI' := Lib.hid h'
  have H1 := Lib.hid h.1
  have H1' := Lib.hid h'.1
  have hmax := h.2.2.1
  have HV := Lib.hid hv
  obtain ⟨G, hG⟩ : ∃ G, w.heap.size = G := ⟨_, rfl⟩
  clear h h' hv
  by_cases hll : l1 = l2
  · have hne : ((l1 : Int) != (l2 : Int)) = false := by simp [hll]
    subst hll
    go_enter Try.func9, Try.ntmps9
    go_wp2
    go_loopw [5] (fun i wr => ∃ k : Nat, k ≤ l1 ∧ i = .int .i64 k ∧ Hid (xs.take k = ys.take k) ∧ Below G w wr) (fun i _ => l1 - (intOf i).toNat)
    case atStart => exact ⟨0, Nat.zero_le _, rfl, rfl, Below.refl _ _⟩
    case round =>
      obtain ⟨k, hk, rfl, hT, hD⟩ := hrel
      have hBw : Below w.heap.size w wr := hG.symm ▸ hD
      have hGw : G ≤ wr.heap.size := by have := hBw.size; omega
      by_cases hlt : k < l1
      · obtain ⟨b, off, rfl, hb, c0, d0⟩ := (HI.out.below hBw).piles hlt
        obtain ⟨b', off', rfl, hb', c1', d1⟩ := (HI'.out.below hBw).piles hlt
        obtain ⟨t1, ht1⟩ : ∃ t1, tAt xs k = t1 := ⟨_, rfl⟩
        obtain ⟨t2, ht2⟩ : ∃ t2, tAt ys k = t2 := ⟨_, rfl⟩
        obtain ⟨m1, hm1⟩ : ∃ m1, mAt xs k = m1 := ⟨_, rfl⟩
        obtain ⟨m2, hm2⟩ : ∃ m2, mAt ys k = m2 := ⟨_, rfl⟩
        have HP : Hid (¬ (t1 = t2 ∧ m1 = m2) → eqP xs ys = false) := fun hh => takeP_part (by rw [ht1, ht2, hm1, hm2]; exact hh)
        have HS : Hid (t1 = t2 → m1 = m2 → xs.take (k + 1) = ys.take (k + 1)) := fun h1 h2 => takeP_step (by rw [H1.out]; exact hlt) (by rw [H1'.out]; exact hlt) hT.out (by rw [ht1, ht2, h1]) (by rw [hm1, hm2, h2])
        rw [ht1] at c0
        rw [hm1] at d0
        rw [ht2] at c1'
        rw [hm2] at d1
        clear ht1 ht2 hm1 hm2
        have u0 : ∀ u : Beh wr, u.w.cell? ⟨b, off + k * 2, none⟩ = some (.string t1) := Beh.cell c0 hb
        have u1 : ∀ u : Beh wr, u.w.cell? ⟨b, off + k * 2 + 1, none⟩ = some (.int .i64 m1) := Beh.cell d0 hb
        have u2 : ∀ u : Beh wr, u.w.cell? ⟨b', off' + k * 2, none⟩ = some (.string t2) := Beh.cell c1' hb'
        have u3 : ∀ u : Beh wr, u.w.cell? ⟨b', off' + k * 2 + 1, none⟩ = some (.int .i64 m2) := Beh.cell d1 hb'
        obtain ⟨q, hq⟩ : ∃ q, (decide (t1 = t2) && decide (m1 = m2)) = q := ⟨_, rfl⟩
        have HQ := Lib.hid hq
        cases q
        · have HF : Hid (v = false) := by
            rw [Hid, ← HV.out]
            refine HP.out fun hh => ?_
            rw [decide_eq_true hh.1, decide_eq_true hh.2] at hq
            cases hq
          clear HS HP hq
          go_wp2_with fail
          refine wp_region_below (by kernel_rfl) (by kernel_rfl) ?_
          repeat (go_big_quiet_step ((go_at_call 18; exact Calls.beh (eqPile_any t1 m1 t2 m2 false _ HQ.out))))
          refine wpQuiet_nil ?_
          rintro _ ⟨⟨w1, hb1⟩, rfl⟩
          have hB1 := hD.trans (hb1.mono hGw)
          go_wp2
          go_ret
          exact ⟨ret_bool HF.out.symm, hG.symm ▸ hB1⟩
        · have HSS : Hid (xs.take (k + 1) = ys.take (k + 1)) := by
            simp only [Bool.and_eq_true, decide_eq_true_iff] at hq
            exact HS.out hq.1 hq.2
          clear HS HP hq
          go_wp2_with fail
          refine wp_region_below (by kernel_rfl) (by kernel_rfl) ?_
          repeat (go_big_quiet_step ((go_at_call 18; exact Calls.beh (eqPile_any t1 m1 t2 m2 true _ HQ.out))))
          refine wpQuiet_nil ?_
          rintro _ ⟨⟨w1, hb1⟩, rfl⟩
          have hB1 := hD.trans (hb1.mono hGw)
          go_wp2
          go_roundw
          case rel => exact ⟨k + 1, by omega, by go_num, HSS, hB1⟩
          case measure => simp [intOf]; omega
      · obtain rfl : k = l1 := by omega
        have HF : Hid (v = true) := by
          have := hT.out
          rw [List.take_of_length_le (by rw [H1.out]; omega), List.take_of_length_le (by rw [H1'.out]; omega)] at this
          rw [Hid, ← HV.out, eqP, this]; simp
        go_wp2
        go_ret
        exact ⟨ret_bool HF.out.symm, hBw⟩
  · have hne : ((l1 : Int) != (l2 : Int)) = true := by simp; omega
    have HF : Hid (v = false) := by
      rw [Hid, ← HV.out]
      simp only [eqP, decide_eq_false_iff_not]
      intro e
      have h1 := H1.out
      have h2 := H1'.out
      rw [e] at h1
      omega
    go_enter Try.func9, Try.ntmps9
    go_wp2
    go_ret
    exact ⟨ret_bool HF.out.symm, Below.refl _ _⟩

end Go.Proofs.Ytojfpnjnbpeniab

namespace Go.Proofs.Ytojfpnjnbpeniab
open Go.RowKit Go.ChangeShapes Go.WideShapes Go.Deep

/-- A slice of piles that came in: it is nil, or it leads to a row of piles. -/
def IsPRow (w : World) (a : Option Addr) (len cap : Nat) (ps : List Pl) : Prop :=
  ps.length = len ∧ Held ps ∧ len ≤ maxLen ∧ ((a = none ∧ len = 0 ∧ cap = 0) ∨ ∃ x, a = some x ∧ len ≤ cap ∧ ∀ i, i < len → w.cell? (x.add (i * 2)) = some (.string (tAt ps i)) ∧ w.cell? (x.add (i * 2 + 1)) = some (.int .i64 (mAt ps i)))
theorem IsPRow.piles {w : World} {a : Option Addr} {len cap : Nat} {ps : List Pl} (h : IsPRow w a len cap ps) (hl : len ≤ 1048576) : IsPiles w a len cap ps := by
  obtain ⟨h1, _, _, h⟩ := h
  rcases h with ⟨rfl, rfl, rfl⟩ | ⟨⟨b, off, spot⟩, rfl, hc, h4⟩
  · exact ⟨h1, Nat.le_refl _, by omega, fun h => by omega⟩
  · refine ⟨h1, hc, by omega, fun hp => ?_⟩
    have h0 := (h4 0 hp).1
    have hs : spot = none := by simpa [Addr.add] using World.cell?_spot h0
    subst hs
    refine ⟨b, off, rfl, World.block_lt_of_cell? w _ h0, fun j hj => ?_⟩
    have := h4 j hj
    rw [add_spot, add_spot] at this
    exact this
def strAt (v : Value) : ByteArray := match v with | .string s => s | _ => ByteArray.empty
theorem pile_fields : Try.prog.underlying 36 = some (.struct #[(Try.prog.fieldsOf 36)[0]!, (Try.prog.fieldsOf 36)[1]!]) := by kernel_rfl
theorem open_prow {H : Type} {enc : TypeId × Value → H} {W : World} {base : Nat} {spare : Nat → Bool} {held : Bool} {fuel : Nat} {cs : List Value} {x : DataW H × List MemPlace} {a : Option Addr} {len cap : Nat} (hcs : cs = [.slice a len cap])
    (hf : DataW.trod enc Try.prog W base spare held fuel 22 cs = some x) : ∃ ps, IsPRow W a len cap ps := by
  rcases open_slice_pairs Try.underlying22 pile_fields (by kernel_rfl) (by kernel_rfl) (by kernel_rfl) (by kernel_rfl) (by kernel_rfl) hf with ⟨h0, _⟩ | ⟨ad, l, c, m, n, V0, V1, D0, D1, P0, P1, h0, _, hl, hm, hmm, _, hi⟩
  · rw [hcs] at h0
    injection h0 with h0 _
    injection h0 with e1 e2 e3
    subst e1; subst e2; subst e3
    exact ⟨[], rfl, fun i => by simp [tAt, maxLen], by unfold maxLen; omega, .inl ⟨rfl, rfl, rfl⟩⟩
  · rw [hcs] at h0
    injection h0 with h0 _
    injection h0 with e1 e2 e3
    subst e1; subst e2; subst e3
    have hlm : len ≤ m := by rw [hmm]; split <;> omega
    have ft0 : ((Try.prog.fieldsOf 36)[0]!).type = 9 := by kernel_rfl
    have ft1 : ((Try.prog.fieldsOf 36)[1]!).type = 3 := by kernel_rfl
    have hs : ∀ i, i < len → ∃ s : ByteArray, V0 i = .string s ∧ s.size ≤ maxLen := fun i hil => by
      have h2 := (hi i (by omega)).2.2.1
      rw [ft0] at h2
      obtain ⟨s, e, _, hsz⟩ := DataW.trod_string Try.underlying9 h2
      injection e with e _
      exact ⟨s, e, hsz⟩
    have hn : ∀ i, i < len → ∃ k : Int, V1 i = .int .i64 k := fun i hil => by
      have h2 := (hi i (by omega)).2.2.2
      rw [ft1] at h2
      obtain ⟨k, e, _, _⟩ := DataW.trod_int Try.underlying3 h2
      injection e with e _
      exact ⟨k, e⟩
    refine ⟨(List.range len).map fun i => (strAt (V0 i), intOf (V1 i)), by simp, fun i => ?_, by omega, .inr ⟨ad, rfl, hl, fun i hil => ?_⟩⟩
    · rcases Nat.lt_or_ge i len with hil | hil
      · obtain ⟨s, e, hsz⟩ := hs i hil
        have : tAt ((List.range len).map fun i => (strAt (V0 i), intOf (V1 i))) i = s := by simp [tAt, hil, e, strAt]
        rw [this]; exact hsz
      · have : tAt ((List.range len).map fun i => (strAt (V0 i), intOf (V1 i))) i = ByteArray.empty := by simp [tAt, hil]
        rw [this]; simp
    · obtain ⟨s, e, _⟩ := hs i hil
      obtain ⟨k, e'⟩ := hn i hil
      have t1 : tAt ((List.range len).map fun i => (strAt (V0 i), intOf (V1 i))) i = s := by simp [tAt, hil, e, strAt]
      have t2 : mAt ((List.range len).map fun i => (strAt (V0 i), intOf (V1 i))) i = k := by simp [mAt, hil, e', intOf]
      rw [t1, t2, ← e, ← e']
      exact ⟨(hi i (by omega)).1, (hi i (by omega)).2.1⟩

set_option maxHeartbeats 1000000 in
/-- **szPileS**, of a longer slice. -/
theorem szPileS_long (a : Option Addr) (len cap : Nat) (L : Int) (w : World) (hl : 1048576 < len) (hm : len ≤ maxLen) (hL : 0 ≤ L ∧ L ≤ 1048576) :
    Calls Try.prog 4 #[.slice a len cap, .int .i64 L] w fun e w' => e = .returned (.int .i64 (-1)) ∧ w = w' := by
  have hsz : (len : Int) ≤ 9223372036854775807 := by unfold maxLen at hm; omega
  have hw : IntKind.i64.wrap (L - (len : Int)) = L - (len : Int) := IntWalk.i64_in _ (by omega)
  have hd : decide (L - (len : Int) < 0) = true := decide_eq_true (by omega)
  go_enter Try.func4, Try.ntmps4
  go_wp2
  go_ret
  exact ⟨rfl, rfl⟩

end Go.Proofs.Ytojfpnjnbpeniab
