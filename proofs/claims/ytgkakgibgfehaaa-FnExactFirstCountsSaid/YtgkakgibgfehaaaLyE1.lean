/-
  What XExFirstCountsW need besides: of XOpen, XLaws, XLawsB, XPiles, XMergeS, XDrawPd, XSameP, XTurnI, XPLaw, XPRow, XMarkP, XMarkB, XMark, XGrid, XTb, XMarkT, XFstE.
-/
import Derived.Test.YtgkakgibgfehaaaSh3
import Derived.Test.YtgkakgibgfehaaaSh7
import Derived.Test.YtgkakgibgfehaaaSh26
import Derived.Test.YtgkakgibgfehaaaFaE
import Derived.ProofKit
import Derived.OpenShut
import Derived.ShutString
import Derived.ChangeOld
import Derived.Below
import Derived.Deep.Grids
import Derived.Laws.OwnMore
import Derived.OwnWalk
import Derived.StillTailTactics
import Derived.Maps.RangeWalk
import Derived.Deep.RegionLaw
import Derived.Deep.AppendLies
import Derived.Laws.StructEq
import Derived.Deep.RegionHeld3
import Derived.Deep.SlicePairs
import Derived.Laws.BytesArg
import Derived.Laws.Concat
import Derived.Deep.Onto
namespace Go.Proofs.Ytgkakgibgfehaaa
open Go.RowKit

theorem IsBytes.below {w w' : World} {a : Option Addr} {len : Nat} {zs : List Int} (h : IsBytes w a len zs) (hb : Below w.heap.size w w') : IsBytes w' a len zs := by
  obtain ⟨h1, h2, h4⟩ := h
  refine ⟨h1, h2, fun hl => ?_⟩
  obtain ⟨b, off, e, hlt, hc⟩ := h4 hl
  exact ⟨b, off, e, Nat.lt_of_lt_of_le hlt hb.size, fun j hj => (hb.cell (p := ⟨b, off + j, none⟩) hlt).trans (hc j hj)⟩

theorem IsBools.dr {w w' : World} {a : Option Addr} {len cap : Nat} {zs : List Bool} (h : IsBools w a len cap zs) (hd : Dr w w') : IsBools w' a len cap zs := h.below (hd.below _)

/-- A slice of bools that came in. -/
def IsBoolRow (w : World) (a : Option Addr) (len cap : Nat) (B : Nat → Bool) : Prop :=
  (a = none ∧ len = 0 ∧ cap = 0) ∨ ∃ x, a = some x ∧ len ≤ cap ∧ cap ≤ maxLen ∧ ∀ i, i < cap → w.cell? (x.add i) = some (.bool (B i))

theorem IsBoolRow.bools {w : World} {a : Option Addr} {len cap : Nat} {B : Nat → Bool} (h : IsBoolRow w a len cap B) (hl : len ≤ 1048576) : IsBools w a len cap ((List.range len).map B) := by
  rcases h with ⟨rfl, rfl, rfl⟩ | ⟨⟨b, off, spot⟩, rfl, h1, h2, h4⟩
  · exact ⟨rfl, Nat.le_refl _, by omega, fun h => by omega⟩
  · refine ⟨by simp, h1, by omega, fun hp => ?_⟩
    have h0 := h4 0 (by omega)
    have hs : spot = none := by simpa [Addr.add] using World.cell?_spot h0
    subst hs
    refine ⟨b, off, rfl, World.block_lt_of_cell? w _ h0, fun j hj => ?_⟩
    have := h4 j (by omega)
    rw [add_spot] at this
    simpa [hj] using this

end Go.Proofs.Ytgkakgibgfehaaa

namespace Go.Proofs.Ytgkakgibgfehaaa
open Go.RowKit

set_option maxHeartbeats 1000000 in
/-- **eqIntS**: whether two lists are equal. -/
theorem eqIntS_any (a : Option Addr) (len cap : Nat) (zs : List Int) (b : Option Addr) (len' cap' : Nat) (ys : List Int) (w : World) (h : IsInts w a len cap zs) (h' : IsInts w b len' cap' ys) :
    Calls Tq.prog 39 #[.slice a len cap, .slice b len' cap'] w fun e w' => e = .returned (.bool (eqB zs ys)) ∧ Dr w w' := by
  by_cases hl : len = len'
  · subst hl
    have hne : ((len : Int) != (len : Int)) = false := by simp
    have hm := h.2.2.1
    have H := Lib.hid h; clear h
    have H' := Lib.hid h'; clear h'
    go_enter Tq.func39, Tq.ntmps39
    go_wp2
    go_loopw [5] (fun i wr => ∃ k : Nat, k ≤ len ∧ i = .int .i64 k ∧ Hid (zs.take k = ys.take k) ∧ Dr w wr) (fun i _ => len - (intOf i).toNat)
    case atStart => exact ⟨0, Nat.zero_le _, rfl, by simp [Hid], Dr.refl _⟩
    case round =>
      obtain ⟨k, hk, rfl, ht, hd⟩ := hrel
      obtain ⟨h1, _, _, h4⟩ := H.out.dr hd
      obtain ⟨g1, _, _, g4⟩ := H'.out.dr hd
      have H1 := Lib.hid h1; clear h1
      have G1 := Lib.hid g1; clear g1
      by_cases hlt : k < len
      · obtain ⟨b1, o1, rfl, hb1, hc1⟩ := h4 (by omega)
        obtain ⟨b2, o2, rfl, hb2, hc2⟩ := g4 (by omega)
        have hz := hc1 k hlt
        have hy := hc2 k hlt
        clear hc1 hc2 h4 g4
        cases he : (zs[k]?.getD 0 == ys[k]?.getD 0)
        · have hn : (zs[k]?.getD 0 != ys[k]?.getD 0) = true := by simp [bne, he]
          have HE := Lib.hid he; clear he
          go_wp2
          go_quiet (fail)
          go_wp2
          go_ret
          exact ⟨ret_bool (take_part zs ys k HE.out).symm, hd.drewN _⟩
        · have hn : (zs[k]?.getD 0 != ys[k]?.getD 0) = false := by simp [bne, he]
          have HE := Lib.hid he; clear he
          go_wp2
          go_quiet (fail)
          go_wp2
          go_roundw
          case rel => exact ⟨k + 1, by omega, by go_num, take_step zs ys k (by rw [H1.out]; omega) (by rw [G1.out]; omega) ht.out (by simpa using HE.out), hd.drewN _⟩
          case measure => simp [intOf]; omega
      · obtain rfl : k = len := by omega
        clear h4 g4
        go_wp2
        go_ret
        refine ⟨ret_bool ?_, hd⟩
        have := ht.out
        rw [List.take_of_length_le (by rw [H1.out]; omega), List.take_of_length_le (by rw [G1.out]; omega)] at this
        rw [this, eqB_self]
  · have hne : ((len : Int) != (len' : Int)) = true := by rw [bne_iff_ne]; omega
    have e : eqB zs ys = false := by
      simp only [eqB, decide_eq_false_iff_not]
      rintro rfl
      exact hl (h.1.symm.trans h'.1)
    rw [e]
    clear e h h' hl
    go_enter Tq.func39, Tq.ntmps39
    go_wp2
    go_ret
    exact ⟨rfl, Dr.refl _⟩

end Go.Proofs.Ytgkakgibgfehaaa

namespace Go.Proofs.Ytgkakgibgfehaaa
open Go.RowKit

/-- The first k of zs, then false ones: what toBoolS has written when k rounds are over. -/
def fillToB (zs : List Bool) (len k : Nat) : List Bool := zs.take k ++ List.replicate (len - k) false
theorem fillToB_step (zs : List Bool) (len k : Nat) (hz : zs.length = len) (hk : k < len) : ((fillToB zs len k).map Value.bool).set k (.bool (zs[k]?.getD false)) = (fillToB zs len (k + 1)).map Value.bool := by
  have e : len - k = (len - (k + 1)) + 1 := by omega
  unfold fillToB
  rw [e, List.replicate_succ, List.take_succ_eq_append_getElem (by omega)]
  have hl : ((zs.take k).map Value.bool).length = k := by simp; omega
  simp only [List.map_append, List.map_cons, List.append_assoc, List.cons_append, List.nil_append]
  rw [List.set_append_right _ _ (by omega), hl, Nat.sub_self, List.set_cons_zero]
  simp [show k < zs.length from by omega]
theorem fillToB_all (zs : List Bool) (len : Nat) (hz : zs.length = len) : fillToB zs len len = zs := by simp [fillToB, ← hz]

set_option maxHeartbeats 1000000 in
/-- **toBoolS**: a new slice with the same bools. -/
theorem toBoolS_any (a : Option Addr) (len cap : Nat) (zs : List Bool) (w : World) (h : IsBools w a len cap zs) :
    Calls Tq.prog 38 #[.slice a len cap] w fun e w' => ∃ g, e = .returned (.slice (some ⟨g, 0, none⟩) len len) ∧ w'.ownsRow w.heap.size 4 1 (.slice (some ⟨g, 0, none⟩) len len) len (zs.map Value.bool) ∧ Below w.heap.size w w' := by
  obtain ⟨i0, hi, hz0, hz1, hz2⟩ := info_parts bool_info
  have H := Lib.hid h
  have hm : len ≤ 1048600 := h.2.2.1
  clear h
  go_enter Tq.func38, Tq.ntmps38
  go_wp2_with (at_make; refine wpList_make_full _ rfl _ _ 24 rfl w.heap.size 4 i0 (.bool false) 1 Tq.underlying24 hi hz0 hz1 .i64 .i64 _ _ len rfl rfl rfl rfl (by rw [hz2]; omega) (by unfold maxLen; omega) (Nat.le_refl _) ?_; intro w1 hown hgrow)
  have hB1 : Below w.heap.size w w1 := (Below.refl _ w).grown hgrow (Nat.le_refl _) (fun k e => by cases e)
  have HO : Hid (w1.ownsRow w.heap.size 4 1 (.slice (some ⟨w.heap.size, 0, none⟩) len len) len ((fillToB zs len 0).map Value.bool)) := by
    unfold Hid
    have e : (madeCells (Value.bool false).cells (len * 1)).toList = (fillToB zs len 0).map Value.bool := by
      rw [show (Value.bool false).cells = #[.bool false] from rfl, toList_madeCells_one]; simp [fillToB]
    rw [← e]; exact hown
  clear hown hgrow hi hz0 hz1 hz2
  go_wp2
  go_loopw [4] (fun i wr => ∃ k : Nat, k ≤ len ∧ i = .int .i64 k ∧ Hid (wr.ownsRow w.heap.size 4 1 (.slice (some ⟨w.heap.size, 0, none⟩) len len) len ((fillToB zs len k).map Value.bool)) ∧ Below w.heap.size w wr) (fun i _ => len - (intOf i).toNat)
  case atStart => exact ⟨0, Nat.zero_le _, rfl, HO, hB1⟩
  case round =>
    obtain ⟨k, hk, rfl, ho, hB⟩ := hrel
    have HI := H.out.below hB
    obtain ⟨h1, h2, h3, h4⟩ := HI
    have H1 := Lib.hid h1; clear h1
    have hfz := ho.out.frozenAt k
    by_cases hlt : k < len
    · obtain ⟨b, off, rfl, hb, hcell⟩ := h4 (by omega)
      have hck := hcell k hlt
      have hcg : wr.cell? ⟨w.heap.size, k, none⟩ = some (.bool ((fillToB zs len k)[k]?.getD false)) := by
        rw [ho.out.cellAt k (by omega)]
        have : k < (fillToB zs len k).length := by simp [fillToB, H1.out]; omega
        simp [this]
      have hst := ho.out.stored k (.bool (zs[k]?.getD false))
      have HS := Lib.hid hst
      clear hcell h4 hst
      go_wp2
      go_roundw
      case rel => exact ⟨k + 1, by omega, by go_num, by unfold Hid; rw [← fillToB_step zs len k H1.out hlt]; exact HS.out.1, hB.setCell (p := ⟨w.heap.size, k, none⟩) (Nat.le_refl _) _⟩
      case measure => simp [intOf]; omega
    · obtain rfl : k = len := by omega
      clear h4
      go_wp2
      go_ret
      exact ⟨_, rfl, by have := ho.out; rwa [fillToB_all zs k H1.out] at this, hB⟩

/-- Two lists of bools are equal. -/
def eqBB (zs ys : List Bool) : Bool := decide (zs = ys)
theorem eqBB_self (zs : List Bool) : eqBB zs zs = true := by simp [eqBB]
theorem take_stepB (zs ys : List Bool) (k : Nat) (hz : k < zs.length) (hy : k < ys.length) (h : zs.take k = ys.take k) (he : zs[k]?.getD false = ys[k]?.getD false) : zs.take (k + 1) = ys.take (k + 1) := by
  rw [List.take_succ_eq_append_getElem hz, List.take_succ_eq_append_getElem hy, h]
  simp [hz, hy] at he
  rw [he]
theorem take_partB (zs ys : List Bool) (k : Nat) (he : (zs[k]?.getD false == ys[k]?.getD false) = false) : eqBB zs ys = false := by
  simp only [eqBB, decide_eq_false_iff_not]
  rintro rfl
  simp at he

set_option maxHeartbeats 1000000 in
/-- **eqBoolS**: whether two lists are equal. -/
theorem eqBoolS_any (a : Option Addr) (len cap : Nat) (zs : List Bool) (b : Option Addr) (len' cap' : Nat) (ys : List Bool) (w : World) (h : IsBools w a len cap zs) (h' : IsBools w b len' cap' ys) :
    Calls Tq.prog 41 #[.slice a len cap, .slice b len' cap'] w fun e w' => e = .returned (.bool (eqBB zs ys)) ∧ Dr w w' := by
  by_cases hl : len = len'
  · subst hl
    have hne : ((len : Int) != (len : Int)) = false := by simp
    have hm := h.2.2.1
    have H := Lib.hid h; clear h
    have H' := Lib.hid h'; clear h'
    go_enter Tq.func41, Tq.ntmps41
    go_wp2
    go_loopw [5] (fun i wr => ∃ k : Nat, k ≤ len ∧ i = .int .i64 k ∧ Hid (zs.take k = ys.take k) ∧ Dr w wr) (fun i _ => len - (intOf i).toNat)
    case atStart => exact ⟨0, Nat.zero_le _, rfl, by simp [Hid], Dr.refl _⟩
    case round =>
      obtain ⟨k, hk, rfl, ht, hd⟩ := hrel
      obtain ⟨h1, _, _, h4⟩ := H.out.dr hd
      obtain ⟨g1, _, _, g4⟩ := H'.out.dr hd
      have H1 := Lib.hid h1; clear h1
      have G1 := Lib.hid g1; clear g1
      by_cases hlt : k < len
      · obtain ⟨b1, o1, rfl, hb1, hc1⟩ := h4 (by omega)
        obtain ⟨b2, o2, rfl, hb2, hc2⟩ := g4 (by omega)
        have hz := hc1 k hlt
        have hy := hc2 k hlt
        clear hc1 hc2 h4 g4
        have hcase : ∀ p q : Bool, p = q ∨ p = !q := by decide
        rcases hcase (zs[k]?.getD false) (ys[k]?.getD false) with he | he
        · have HE := Lib.hid he
          rw [he] at hz
          obtain ⟨q, hq⟩ : ∃ q, ys[k]?.getD false = q := ⟨_, rfl⟩
          rw [hq] at hz hy
          clear hq he
          cases q
          all_goals
            go_wp2
            go_quiet (fail)
            go_wp2
            go_roundw
            case rel => exact ⟨k + 1, by omega, by go_num, take_stepB zs ys k (by rw [H1.out]; omega) (by rw [G1.out]; omega) ht.out HE.out, hd.drewN _⟩
            case measure => simp [intOf]; omega
        · have HE := Lib.hid he
          rw [he] at hz
          obtain ⟨q, hq⟩ : ∃ q, ys[k]?.getD false = q := ⟨_, rfl⟩
          rw [hq] at hz hy
          clear hq he
          cases q
          all_goals
            simp only [Bool.not_false, Bool.not_true] at hz
            go_wp2
            go_quiet (fail)
            go_wp2
            go_ret
            exact ⟨ret_bool (take_partB zs ys k (by rw [HE.out]; cases ys[k]?.getD false <;> rfl)).symm, hd.drewN _⟩
      · obtain rfl : k = len := by omega
        clear h4 g4
        go_wp2
        go_ret
        refine ⟨ret_bool ?_, hd⟩
        have := ht.out
        rw [List.take_of_length_le (by rw [H1.out]; omega), List.take_of_length_le (by rw [G1.out]; omega)] at this
        rw [this, eqBB_self]
  · have hne : ((len : Int) != (len' : Int)) = true := by rw [bne_iff_ne]; omega
    have e : eqBB zs ys = false := by
      simp only [eqBB, decide_eq_false_iff_not]
      rintro rfl
      exact hl (h.1.symm.trans h'.1)
    rw [e]
    clear e h h' hl
    go_enter Tq.func41, Tq.ntmps41
    go_wp2
    go_ret
    exact ⟨rfl, Dr.refl _⟩

end Go.Proofs.Ytgkakgibgfehaaa

namespace Go.Proofs.Ytgkakgibgfehaaa
open Go.RowKit

theorem IsPiles.dr {w w' : World} {a : Option Addr} {len cap : Nat} {ps : List Pl} (h : IsPiles w a len cap ps) (hd : Dr w w') : IsPiles w' a len cap ps := h.below (hd.below _)
end Go.Proofs.Ytgkakgibgfehaaa

namespace Go.Proofs.Ytgkakgibgfehaaa
open Go.RowKit

theorem Small.take {ps : List Pl} (h : Small ps) (k : Nat) : Small (ps.take k) := Small.of fun q hq => by
  obtain ⟨i, hi, e⟩ := List.mem_iff_getElem.1 (List.mem_of_mem_take hq)
  have := h i
  unfold tAt at this
  rw [← e]
  simpa [hi] using this
end Go.Proofs.Ytgkakgibgfehaaa

namespace Go.Proofs.Ytgkakgibgfehaaa
open Go.RowKit

theorem HasP.lt {w0 w : World} {ps : List Pl} {g cap : Nat} (h : HasP w0 w ps g cap) : g < w.heap.size := (h.1.lt g rfl).2

end Go.Proofs.Ytgkakgibgfehaaa

namespace Go.Proofs.Ytgkakgibgfehaaa
open Go.RowKit

def eqP (xs ys : List Pl) : Bool := decide (xs = ys)
theorem eqP_self (xs : List Pl) : eqP xs xs = true := by simp [eqP]
theorem takeP_step {xs ys : List Pl} {k : Nat} (hx : k < xs.length) (hy : k < ys.length) (h : xs.take k = ys.take k) (ht : tAt xs k = tAt ys k) (hm : mAt xs k = mAt ys k) : xs.take (k + 1) = ys.take (k + 1) := by
  rw [take_one hx, take_one hy, h, ht, hm]
theorem takeP_part {xs ys : List Pl} {k : Nat} (h : ¬ (tAt xs k = tAt ys k ∧ mAt xs k = mAt ys k)) : eqP xs ys = false := by
  simp only [eqP, decide_eq_false_iff_not]
  rintro rfl
  exact h ⟨rfl, rfl⟩

end Go.Proofs.Ytgkakgibgfehaaa

namespace Go.Proofs.Ytgkakgibgfehaaa
open Go.RowKit Go.Maps

theorem Below.grownBy {w w' : World} (h : Below w.heap.size w w') : w.grownBy w' none := ⟨h.os, h.tape, h.output, h.size, fun k hk _ => h.block k hk⟩
end Go.Proofs.Ytgkakgibgfehaaa

namespace Go.Proofs.Ytgkakgibgfehaaa
open Go.RowKit

set_option maxHeartbeats 1000000 in
/-- **szPile**. -/
theorem szPile_any (t : ByteArray) (m L : Int) (w : World) (ht : t.size ≤ maxLen) (hL : 0 ≤ L ∧ L ≤ 1048576) :
    Calls Tq.prog 73 #[.agg #[.string t, .int .i64 m], .int .i64 L] w fun e w' => ∃ v : Int, e = .returned (.int .i64 v) ∧ (0 ≤ v → v ≤ L ∧ t.size ≤ 1048576) ∧ v ≤ L ∧ -1 ≤ v ∧ Below w.heap.size w w' := by
  have hsz : (t.size : Int) ≤ 9223372036854775807 := by unfold maxLen at ht; omega
  have hw : IntKind.i64.wrap (L - (t.size : Int)) = L - (t.size : Int) := IntWalk.i64_in _ (by omega)
  have hB : Below w.heap.size w (w.alloc (.cells #[.string t, .int .i64 m] 84)) := (Below.refl _ w).alloc (Nat.le_refl _) _
  by_cases hneg : L - (t.size : Int) < 0
  · have hd : decide (L - (t.size : Int) < 0) = true := decide_eq_true hneg
    go_enter Tq.func73, Tq.ntmps73
    go_wp2
    go_ret
    exact ⟨-1, rfl, fun h => by omega, by omega, by omega, hB⟩
  · have hd : decide (L - (t.size : Int) < 0) = false := decide_eq_false hneg
    go_enter Tq.func73, Tq.ntmps73
    go_wp2
    go_ret
    exact ⟨_, rfl, fun h => ⟨by omega, by omega⟩, by omega, by omega, hB⟩

/-- Every text is a text of a machine. -/
def Held (ps : List Pl) : Prop := ∀ i, (tAt ps i).size ≤ maxLen

set_option maxRecDepth 100000 in
set_option maxHeartbeats 2000000 in
/-- **szPileS**: not negative only where every text is of at most 1048576 bytes. -/
theorem szPileS_any (a : Option Addr) (len cap : Nat) (ps : List Pl) (L : Int) (w : World) (h : IsPiles w a len cap ps) (hh : Held ps) (hL : 0 ≤ L ∧ L ≤ 1048576) :
    Calls Tq.prog 36 #[.slice a len cap, .int .i64 L] w fun e w' => ∃ v : Int, e = .returned (.int .i64 v) ∧ (0 ≤ v → v ≤ 1048576 ∧ Small ps) ∧ -1 ≤ v ∧ Below w.heap.size w w' := by
  have HI := Lib.hid h
  have HH := Lib.hid hh
  have H1 := Lib.hid h.1
  have hm := h.2.2.1
  obtain ⟨G, hG⟩ : ∃ G, w.heap.size = G := ⟨_, rfl⟩
  clear h hh
  have hw : IntKind.i64.wrap (L - (len : Int)) = L - (len : Int) := IntWalk.i64_in _ (by omega)
  by_cases hneg : L - (len : Int) < 0
  · have hd : decide (L - (len : Int) < 0) = true := decide_eq_true hneg
    go_enter Tq.func36, Tq.ntmps36
    go_wp2
    go_ret
    exact ⟨-1, rfl, fun h => by omega, by omega, Below.refl _ _⟩
  · have hd : decide (L - (len : Int) < 0) = false := decide_eq_false hneg
    go_enter Tq.func36, Tq.ntmps36
    go_wp2
    go_loopw [1, 5] (fun l i wr => ∃ (k : Nat) (x : Int), k ≤ len ∧ i = .int .i64 k ∧ l = .int .i64 x ∧ 0 ≤ x ∧ x ≤ 1048576 ∧ Hid (∀ j, j < k → (tAt ps j).size ≤ 1048576) ∧ Below G w wr) (fun _ i _ => len - (intOf i).toNat)
    case atStart => exact ⟨0, _, Nat.zero_le _, rfl, rfl, by omega, by omega, fun j hj => by omega, Below.refl _ _⟩
    case round =>
      obtain ⟨k, x, hk, rfl, rfl, hx0, hx1, hA, hB⟩ := hrel
      have hBw : Below w.heap.size w wr := hG.symm ▸ hB
      by_cases hlt : k < len
      · obtain ⟨b, off, rfl, hb, c0, c1⟩ := (HI.out.below hBw).piles hlt
        obtain ⟨t, ht⟩ : ∃ t, tAt ps k = t := ⟨_, rfl⟩
        obtain ⟨m, hmm⟩ : ∃ m, mAt ps k = m := ⟨_, rfl⟩
        have hts : t.size ≤ maxLen := by rw [← ht]; exact HH.out k
        rw [ht] at c0
        rw [hmm] at c1
        have HT := Lib.hid ht
        clear ht hmm
        go_wp2_with fail
        refine (szPile_any t m x _ hts ⟨hx0, hx1⟩).mono ?_
        rintro e w1 ⟨v, rfl, hv, hvL, hv1, hb1⟩
        have B1 : Below G w w1 := hB.trans (hb1.mono (by have := hBw.size; omega))
        by_cases hvn : v < 0
        · have hd2 : decide (v < 0) = true := decide_eq_true hvn
          go_wp2
          go_ret
          exact ⟨-1, rfl, fun h => by omega, by omega, hG.symm ▸ B1⟩
        · have hd2 : decide (v < 0) = false := decide_eq_false hvn
          have hv2 := hv (by omega)
          have HA2 : Hid (∀ j, j < k + 1 → (tAt ps j).size ≤ 1048576) := fun j hj => by
            rcases Nat.lt_or_ge j k with g | g
            · exact hA.out j g
            · have : j = k := by omega
              subst this; rw [HT.out]; exact hv2.2
          clear hv
          go_wp2
          go_roundw
          case rel => exact ⟨k + 1, v, by omega, by go_num, rfl, by omega, by omega, HA2, B1⟩
          case measure => simp [intOf]; omega
      · obtain rfl : k = len := by omega
        go_wp2
        go_ret
        refine ⟨x, rfl, fun _ => ⟨hx1, fun i => ?_⟩, by omega, hBw⟩
        rcases Nat.lt_or_ge i k with g | g
        · have := hA.out i g; omega
        · unfold tAt
          rw [List.getElem?_eq_none (by rw [H1.out]; exact g)]
          simp

set_option maxHeartbeats 1000000 in
/-- **toPile**. -/
theorem toPile_any (t : ByteArray) (m : Int) (w : World) :
    Calls Tq.prog 74 #[.agg #[.string t, .int .i64 m]] w fun e w' => e = .returned (.agg #[.string t, .int .i64 m]) ∧ Below w.heap.size w w' := by
  go_enter Tq.func74, Tq.ntmps74
  go_wp2
  refine bodyPost_ret (results_cell_row rfl _ _ (w.heap.size + 1) 48 #[.string t, .int .i64 m] (0, 0) _ rfl ?_ Tq.underlying48 rfl (by kernel_rfl)) rfl ?_
  · rw [heap_alloc_old _ _ (by simp), heap_alloc2_new]
  · exact ⟨rfl, (((Below.refl _ w).alloc (Nat.le_refl _) _).alloc (by simp) _).alloc (by simp; omega) _⟩

/-- The first k piles, then empty ones. -/
def fillP (ps : List Pl) (len k : Nat) : List Pl := ps.take k ++ List.replicate (len - k) (ByteArray.empty, 0)
theorem fillP_length {ps : List Pl} {len k : Nat} (h : ps.length = len) (hk : k ≤ len) : (fillP ps len k).length = len := by simp [fillP]; omega
theorem fillP_all {ps : List Pl} {len : Nat} (h : ps.length = len) : fillP ps len len = ps := by simp [fillP, ← h]
theorem fillP_step {ps : List Pl} {len k : Nat} (h : ps.length = len) (hk : k < len) : (fillP ps len k).set k (tAt ps k, mAt ps k) = fillP ps len (k + 1) := by
  have e : len - k = (len - (k + 1)) + 1 := by omega
  unfold fillP
  rw [e, List.replicate_succ, take_one (by omega)]
  have hl : (ps.take k).length = k := by simp; omega
  rw [List.set_append_right _ _ (by omega), hl, Nat.sub_self, List.set_cons_zero]
  simp
theorem cells_set2 {ps : List Pl} {k : Nat} {t : ByteArray} {m : Int} (h : k < ps.length) : ((cellsP ps).set (k * 2) (.string t)).set (k * 2 + 1) (.int .i64 m) = cellsP (ps.set k (t, m)) := by
  rw [cellsP_setT ps k t h, cellsP_set _ k m (by simpa using h)]
  congr 1
  rw [List.set_set]
  simp [tAt, h]
theorem cells_made (len : Nat) : (madeCells (Value.agg #[.string ⟨#[]⟩, .int .i64 0]).cells (len * 2)).toList = cellsP (List.replicate len (ByteArray.empty, 0)) := by
  apply List.ext_getElem?
  intro j
  by_cases hj : j < len * 2
  · have h2 : (madeCells (Value.agg #[.string ⟨#[]⟩, .int .i64 0]).cells (len * 2)).toList[j]? = some (#[Value.string ⟨#[]⟩, .int .i64 0][j % 2]!) := by
      rw [Array.getElem?_toList]
      simp [madeCells, hj, Value.cells]
    rw [h2]
    have hi : j / 2 < (List.replicate len ((ByteArray.empty, 0) : Pl)).length := by simp; omega
    rcases Nat.mod_two_eq_zero_or_one j with h | h
    · have := cellsP_text (List.replicate len (ByteArray.empty, 0)) (j / 2) hi
      rw [show j / 2 * 2 = j by omega] at this
      rw [this, h]
      simp at hi
      simp [tAt, hi]
      rfl
    · have := cellsP_many (List.replicate len (ByteArray.empty, 0)) (j / 2) hi
      rw [show j / 2 * 2 + 1 = j by omega] at this
      rw [this, h]
      simp at hi
      simp [mAt, hi]
  · rw [List.getElem?_eq_none (by simp [size_madeCells]; omega), List.getElem?_eq_none (by rw [cellsP_length]; simp; omega)]

set_option maxRecDepth 100000 in
set_option maxHeartbeats 4000000 in
/-- **toPileS**: a new slice with the same piles. -/
theorem toPileS_any (a : Option Addr) (len cap : Nat) (ps : List Pl) (w : World) (h : IsPiles w a len cap ps) :
    Calls Tq.prog 37 #[.slice a len cap] w fun e w' => ∃ g, e = .returned (.slice (some ⟨g, 0, none⟩) len len) ∧ w'.ownsRow w.heap.size 48 2 (.slice (some ⟨g, 0, none⟩) len len) len (cellsP ps) ∧ Below w.heap.size w w' := by
  obtain ⟨i0, hi, hz0, hz1, hz2⟩ := info_parts pile_info
  have HI := Lib.hid h
  have H1 := Lib.hid h.1
  have hm : len ≤ 1048600 := h.2.2.1
  obtain ⟨G, hG⟩ : ∃ G, w.heap.size = G := ⟨_, rfl⟩
  clear h
  go_enter Tq.func37, Tq.ntmps37
  go_wp2_with (at_make; refine wpList_make_full _ rfl _ _ 23 rfl w.heap.size 48 i0 (.agg #[.string ⟨#[]⟩, .int .i64 0]) 2 Tq.underlying23 hi hz0 hz1 .i64 .i64 _ _ len rfl rfl rfl rfl (by rw [hz2]; omega) (by unfold maxLen; omega) (Nat.le_refl _) ?_; intro w1 hown hgrow)
  have hB1 : Below G w w1 := by rw [← hG]; exact (Below.refl _ w).grown hgrow (Nat.le_refl _) (fun k e => by cases e)
  have HO : Hid (w1.ownsRow G 48 2 (.slice (some ⟨G, 0, none⟩) len len) len (cellsP (fillP ps len 0))) := by
    unfold Hid
    have e : (madeCells (Value.agg #[.string ⟨#[]⟩, .int .i64 0]).cells (len * 2)).toList = cellsP (fillP ps len 0) := by rw [cells_made]; simp [fillP]
    rw [← e, ← hG]; exact hown
  clear hown hgrow hi hz0 hz1 hz2
  go_wp2
  go_loopw [4] (fun i wr => ∃ k : Nat, k ≤ len ∧ i = .int .i64 k ∧ Hid (wr.ownsRow G 48 2 (.slice (some ⟨G, 0, none⟩) len len) len (cellsP (fillP ps len k))) ∧ Below G w wr) (fun i _ => len - (intOf i).toNat)
  case atStart => exact ⟨0, Nat.zero_le _, rfl, HO, hB1⟩
  case round =>
    obtain ⟨k, hk, rfl, ho, hB⟩ := hrel
    have hBw : Below w.heap.size w wr := hG.symm ▸ hB
    have hGw : G ≤ wr.heap.size := by have := hBw.size; omega
    by_cases hlt : k < len
    · obtain ⟨b, off, rfl, hb, c0, c1⟩ := (HI.out.below hBw).piles hlt
      obtain ⟨t, ht⟩ : ∃ t, tAt ps k = t := ⟨_, rfl⟩
      obtain ⟨m, hmm⟩ : ∃ m, mAt ps k = m := ⟨_, rfl⟩
      have HST : Hid ((fillP ps len k).set k (t, m) = fillP ps len (k + 1)) := by rw [Hid, ← ht, ← hmm]; exact fillP_step H1.out hlt
      have hkf : k < (fillP ps len k).length := by rw [fillP_length H1.out hk]; exact hlt
      rw [ht] at c0
      rw [hmm] at c1
      clear ht hmm
      go_wp2_with fail
      refine (toPile_any t m _).mono ?_
      rintro e w1 ⟨rfl, hb1⟩
      have O1 := Lib.hid (owns_below ho.out hb1)
      have B1 := Lib.hid (hB.trans (hb1.mono hGw))
      have x0 : w1.cell? ⟨G, k * 2, none⟩ = some (.string (tAt (fillP ps len k) k)) := by rw [O1.out.cellAt (k * 2) (by omega)]; exact cellsP_text _ k hkf
      have x1 : w1.cell? ⟨G, k * 2 + 1, none⟩ = some (.int .i64 (mAt (fillP ps len k) k)) := by rw [O1.out.cellAt (k * 2 + 1) (by omega)]; exact cellsP_many _ k hkf
      have f0 : w1.frozen? ⟨G, k * 2, none⟩ = false := O1.out.frozenAt (k * 2)
      have f1 : w1.frozen? ⟨G, k * 2 + 1, none⟩ = false := O1.out.frozenAt (k * 2 + 1)
      have S1 := Lib.hid (O1.out.stored (k * 2) (.string t))
      have S2 := Lib.hid (S1.out.1.stored (k * 2 + 1) (.int .i64 m))
      have hGw1 : G ≤ w1.heap.size := by have := B1.out.size; omega
      have BB := Lib.hid ((B1.out.grown S1.out.2 hGw1 (fun i ei => by cases ei; exact Nat.le_refl _)).grown S2.out.2 (Nat.le_trans hGw1 S1.out.2.size) (fun i ei => by cases ei; exact Nat.le_refl _))
      clear hb1
      go_wp2
      go_roundw
      case rel => exact ⟨k + 1, by omega, by go_num, by rw [Hid, ← HST.out, ← cells_set2 hkf]; exact S2.out.1, BB.out⟩
      case measure => simp [intOf]; omega
    · obtain rfl : k = len := by omega
      rw [fillP_all H1.out] at ho
      go_wp2
      go_ret
      exact ⟨G, rfl, by rw [hG]; exact ho.out, hBw⟩

set_option maxHeartbeats 2000000 in
/-- **eqPile**. -/
theorem eqPile_any (t1 : ByteArray) (m1 : Int) (t2 : ByteArray) (m2 : Int) (v : Bool) (w : World) (hv : (decide (t1 = t2) && decide (m1 = m2)) = v) :
    Calls Tq.prog 75 #[.agg #[.string t1, .int .i64 m1], .agg #[.string t2, .int .i64 m2]] w fun e w' => e = .returned (.bool v) ∧ Below w.heap.size w w' := by
  have hB : Below w.heap.size w ((w.alloc (.cells #[.string t1, .int .i64 m1] 48)).alloc (.cells #[.string t2, .int .i64 m2] 48)) := ((Below.refl _ w).alloc (Nat.le_refl _) _).alloc (by simp) _
  by_cases ht : t1 = t2
  · subst ht
    by_cases hm : m1 = m2
    · subst hm
      have HV : Hid (v = true) := by rw [Hid, ← hv]; simp
      have e1 : (t1.toList != t1.toList) = false := by simp
      have e2 : (m1 != m1) = false := by simp
      clear hv
      go_enter Tq.func75, Tq.ntmps75
      go_wp2
      go_ret
      exact ⟨ret_bool HV.out.symm, hB⟩
    · have HV : Hid (v = false) := by rw [Hid, ← hv]; simp [hm]
      have e1 : (t1.toList != t1.toList) = false := by simp
      have e2 : (m1 != m2) = true := by simp [hm]
      clear hv
      go_enter Tq.func75, Tq.ntmps75
      go_wp2
      go_ret
      exact ⟨ret_bool HV.out.symm, hB⟩
  · have HV : Hid (v = false) := by rw [Hid, ← hv]; simp [ht]
    have e0 : (t1.toList == t2.toList) = false := by rw [eq_text]; exact decide_eq_false ht
    have e1 : (t1.toList != t2.toList) = true := by rw [bne, e0]; rfl
    clear hv
    go_enter Tq.func75, Tq.ntmps75
    go_wp2
    go_ret
    exact ⟨ret_bool HV.out.symm, hB⟩

set_option maxRecDepth 100000 in
set_option maxHeartbeats 4000000 in
/-- **eqPileS**. -/
theorem eqPileS_as (a1 : Option Addr) (l1 c1 : Nat) (xs : List Pl) (a2 : Option Addr) (l2 c2 : Nat) (ys : List Pl) (v : Bool) (w : World) (h : IsPiles w a1 l1 c1 xs) (h' : IsPiles w a2 l2 c2 ys) (hv : eqP xs ys = v) :
    Calls Tq.prog 40 #[.slice a1 l1 c1, .slice a2 l2 c2] w fun e w' => e = .returned (.bool v) ∧ Below w.heap.size w w' := by
  have HI := Lib.hid h
  have HI' := Lib.hid h'
  have H1 := Lib.hid h.1
  have H1' := Lib.hid h'.1
  have hmax := h.2.2.1
  have HV := Lib.hid hv
  obtain ⟨G, hG⟩ : ∃ G, w.heap.size = G := ⟨_, rfl⟩
  clear h h' hv
  by_cases hll : l1 = l2
  · have hne : ((l1 : Int) != (l2 : Int)) = false := by simp [hll]
    subst hll
    go_enter Tq.func40, Tq.ntmps40
    go_wp2
    go_loopw [5] (fun i wr => ∃ k : Nat, k ≤ l1 ∧ i = .int .i64 k ∧ Hid (xs.take k = ys.take k) ∧ Below G w wr) (fun i _ => l1 - (intOf i).toNat)
    case atStart => exact ⟨0, Nat.zero_le _, rfl, rfl, Below.refl _ _⟩
    case round =>
      obtain ⟨k, hk, rfl, hT, hD⟩ := hrel
      have hBw : Below w.heap.size w wr := hG.symm ▸ hD
      have hGw : G ≤ wr.heap.size := by have := hBw.size; omega
      by_cases hlt : k < l1
      · obtain ⟨b, off, rfl, hb, c0, d0⟩ := (HI.out.below hBw).piles hlt
        obtain ⟨b', off', rfl, hb', c1', d1⟩ := (HI'.out.below hBw).piles hlt
        obtain ⟨t1, ht1⟩ : ∃ t1, tAt xs k = t1 := ⟨_, rfl⟩
        obtain ⟨t2, ht2⟩ : ∃ t2, tAt ys k = t2 := ⟨_, rfl⟩
        obtain ⟨m1, hm1⟩ : ∃ m1, mAt xs k = m1 := ⟨_, rfl⟩
        obtain ⟨m2, hm2⟩ : ∃ m2, mAt ys k = m2 := ⟨_, rfl⟩
        have HP : Hid (¬ (t1 = t2 ∧ m1 = m2) → eqP xs ys = false) := fun hh => takeP_part (by rw [ht1, ht2, hm1, hm2]; exact hh)
        have HS : Hid (t1 = t2 → m1 = m2 → xs.take (k + 1) = ys.take (k + 1)) := fun h1 h2 => takeP_step (by rw [H1.out]; exact hlt) (by rw [H1'.out]; exact hlt) hT.out (by rw [ht1, ht2, h1]) (by rw [hm1, hm2, h2])
        rw [ht1] at c0
        rw [hm1] at d0
        rw [ht2] at c1'
        rw [hm2] at d1
        clear ht1 ht2 hm1 hm2
        have u0 : ∀ u : Beh wr, u.w.cell? ⟨b, off + k * 2, none⟩ = some (.string t1) := Beh.cell c0 hb
        have u1 : ∀ u : Beh wr, u.w.cell? ⟨b, off + k * 2 + 1, none⟩ = some (.int .i64 m1) := Beh.cell d0 hb
        have u2 : ∀ u : Beh wr, u.w.cell? ⟨b', off' + k * 2, none⟩ = some (.string t2) := Beh.cell c1' hb'
        have u3 : ∀ u : Beh wr, u.w.cell? ⟨b', off' + k * 2 + 1, none⟩ = some (.int .i64 m2) := Beh.cell d1 hb'
        obtain ⟨q, hq⟩ : ∃ q, (decide (t1 = t2) && decide (m1 = m2)) = q := ⟨_, rfl⟩
        have HQ := Lib.hid hq
        cases q
        · have HF : Hid (v = false) := by
            rw [Hid, ← HV.out]
            refine HP.out fun hh => ?_
            rw [decide_eq_true hh.1, decide_eq_true hh.2] at hq
            cases hq
          clear HS HP hq
          go_wp2_with fail
          refine wp_region_below (by kernel_rfl) (by kernel_rfl) ?_
          repeat (go_big_quiet_step ((go_at_call 75; exact Calls.beh (eqPile_any t1 m1 t2 m2 false _ HQ.out))))
          refine wpQuiet_nil ?_
          rintro _ ⟨⟨w1, hb1⟩, rfl⟩
          have hB1 := hD.trans (hb1.mono hGw)
          go_wp2
          go_ret
          exact ⟨ret_bool HF.out.symm, hG.symm ▸ hB1⟩
        · have HSS : Hid (xs.take (k + 1) = ys.take (k + 1)) := by
            simp only [Bool.and_eq_true, decide_eq_true_iff] at hq
            exact HS.out hq.1 hq.2
          clear HS HP hq
          go_wp2_with fail
          refine wp_region_below (by kernel_rfl) (by kernel_rfl) ?_
          repeat (go_big_quiet_step ((go_at_call 75; exact Calls.beh (eqPile_any t1 m1 t2 m2 true _ HQ.out))))
          refine wpQuiet_nil ?_
          rintro _ ⟨⟨w1, hb1⟩, rfl⟩
          have hB1 := hD.trans (hb1.mono hGw)
          go_wp2
          go_roundw
          case rel => exact ⟨k + 1, by omega, by go_num, HSS, hB1⟩
          case measure => simp [intOf]; omega
      · obtain rfl : k = l1 := by omega
        have HF : Hid (v = true) := by
          have := hT.out
          rw [List.take_of_length_le (by rw [H1.out]; omega), List.take_of_length_le (by rw [H1'.out]; omega)] at this
          rw [Hid, ← HV.out, eqP, this]; simp
        go_wp2
        go_ret
        exact ⟨ret_bool HF.out.symm, hBw⟩
  · have hne : ((l1 : Int) != (l2 : Int)) = true := by simp; omega
    have HF : Hid (v = false) := by
      rw [Hid, ← HV.out]
      simp only [eqP, decide_eq_false_iff_not]
      intro e
      have h1 := H1.out
      have h2 := H1'.out
      rw [e] at h1
      omega
    go_enter Tq.func40, Tq.ntmps40
    go_wp2
    go_ret
    exact ⟨ret_bool HF.out.symm, Below.refl _ _⟩

end Go.Proofs.Ytgkakgibgfehaaa

namespace Go.Proofs.Ytgkakgibgfehaaa
open Go.RowKit Go.ChangeShapes Go.WideShapes Go.Deep

/-- A slice of piles that came in: it is nil, or it leads to a row of piles. -/
def IsPRow (w : World) (a : Option Addr) (len cap : Nat) (ps : List Pl) : Prop :=
  ps.length = len ∧ Held ps ∧ len ≤ maxLen ∧ ((a = none ∧ len = 0 ∧ cap = 0) ∨ ∃ x, a = some x ∧ len ≤ cap ∧ ∀ i, i < len → w.cell? (x.add (i * 2)) = some (.string (tAt ps i)) ∧ w.cell? (x.add (i * 2 + 1)) = some (.int .i64 (mAt ps i)))
theorem IsPRow.piles {w : World} {a : Option Addr} {len cap : Nat} {ps : List Pl} (h : IsPRow w a len cap ps) (hl : len ≤ 1048576) : IsPiles w a len cap ps := by
  obtain ⟨h1, _, _, h⟩ := h
  rcases h with ⟨rfl, rfl, rfl⟩ | ⟨⟨b, off, spot⟩, rfl, hc, h4⟩
  · exact ⟨h1, Nat.le_refl _, by omega, fun h => by omega⟩
  · refine ⟨h1, hc, by omega, fun hp => ?_⟩
    have h0 := (h4 0 hp).1
    have hs : spot = none := by simpa [Addr.add] using World.cell?_spot h0
    subst hs
    refine ⟨b, off, rfl, World.block_lt_of_cell? w _ h0, fun j hj => ?_⟩
    have := h4 j hj
    rw [add_spot, add_spot] at this
    exact this
set_option maxHeartbeats 1000000 in
/-- **szPileS**, of a longer slice. -/
theorem szPileS_long (a : Option Addr) (len cap : Nat) (L : Int) (w : World) (hl : 1048576 < len) (hm : len ≤ maxLen) (hL : 0 ≤ L ∧ L ≤ 1048576) :
    Calls Tq.prog 36 #[.slice a len cap, .int .i64 L] w fun e w' => e = .returned (.int .i64 (-1)) ∧ w = w' := by
  have hsz : (len : Int) ≤ 9223372036854775807 := by unfold maxLen at hm; omega
  have hw : IntKind.i64.wrap (L - (len : Int)) = L - (len : Int) := IntWalk.i64_in _ (by omega)
  have hd : decide (L - (len : Int) < 0) = true := decide_eq_true (by omega)
  go_enter Tq.func36, Tq.ntmps36
  go_wp2
  go_ret
  exact ⟨rfl, rfl⟩

end Go.Proofs.Ytgkakgibgfehaaa

namespace Go.Proofs.Ytgkakgibgfehaaa
open Go.RowKit

/-- The decimal digits of a number, none of nought. -/
def digs (n : Nat) : ByteArray := if _h : n = 0 then ByteArray.empty else digs (n / 10) ++ strOfNums [48 + ((n % 10 : Nat) : Int)]
termination_by n
decreasing_by omega
theorem digs_pos {n : Nat} (h : n ≠ 0) : digs n = digs (n / 10) ++ strOfNums [48 + ((n % 10 : Nat) : Int)] := by rw [digs]; simp [h]
theorem digs_zero : digs 0 = ByteArray.empty := by rw [digs]; simp
theorem app_empty (a : ByteArray) : a ++ ⟨#[]⟩ = a := by
  apply ByteArray.ext
  simp [ByteArray.data_append]
theorem app_assoc (a b c : ByteArray) : a ++ b ++ c = a ++ (b ++ c) := by
  apply ByteArray.ext
  simp [ByteArray.data_append]
/-- The text that markText gives. -/
def mT (k : Int) : ByteArray := if k ≤ 0 then ⟨#[109, 48]⟩ else ⟨#[109]⟩ ++ digs k.toNat

set_option maxRecDepth 100000 in
set_option maxHeartbeats 2000000 in
/-- **markText**. -/
theorem markText_as (k : Int) (s : ByteArray) (w : World) (hk0 : 0 ≤ k) (hk : k ≤ 100000000) (hs : mT k = s) :
    Calls Tq.prog 76 #[.int .i64 k] w fun e w' => e = .returned (.string s) ∧ Below w.heap.size w w' := by
  obtain ⟨n0, rfl⟩ : ∃ n0 : Nat, k = (n0 : Int) := ⟨k.toNat, by omega⟩
  obtain ⟨G, hG⟩ : ∃ G, w.heap.size = G := ⟨_, rfl⟩
  by_cases hz : (n0 : Int) ≤ 0
  · have hd : decide ((n0 : Int) ≤ 0) = true := decide_eq_true hz
    have HS : Hid (s = ⟨#[109, 48]⟩) := by rw [Hid, ← hs, mT, if_pos hz]
    clear hs
    go_enter Tq.func76, Tq.ntmps76
    go_wp2
    go_ret
    exact ⟨ret_str HS.out.symm, Below.refl _ _⟩
  · have hd : decide ((n0 : Int) ≤ 0) = false := decide_eq_false hz
    have HS : Hid (s = ⟨#[109]⟩ ++ digs n0) := by rw [Hid, ← hs, mT, if_neg hz]; simp
    clear hs
    go_enter Tq.func76, Tq.ntmps76
    go_wp2
    go_loopw [0, 3] (fun i o wr => ∃ (n : Nat) (u : ByteArray), n ≤ n0 ∧ i = .int .i64 n ∧ o = .string u ∧ Hid (digs n ++ u = digs n0) ∧ u.size + n ≤ n0 ∧ Below G w wr) (fun i _ _ => (intOf i).toNat)
    case atStart => exact ⟨n0, _, Nat.le_refl _, rfl, rfl, app_empty _, by show 0 + n0 ≤ n0; omega, Below.refl _ _⟩
    case round =>
      obtain ⟨n, u, hn, rfl, rfl, hD, hun, hB⟩ := hrel
      have hBw : Below w.heap.size w wr := hG.symm ▸ hB
      have hGw : G ≤ wr.heap.size := by have := hBw.size; omega
      by_cases hpos : 0 < n
      · have hd2 : decide ((0 : Int) < (n : Int)) = true := decide_eq_true (by omega)
        have hd3 : decide (0 < n) = true := decide_eq_true hpos
        have hmod : (n : Int).tmod 10 = ((n % 10 : Nat) : Int) := by rw [Int.tmod_eq_emod_of_nonneg (by omega)]; omega
        have hdiv : (n : Int).tdiv 10 = ((n / 10 : Nat) : Int) := by rw [Int.tdiv_eq_ediv_of_nonneg (by omega)]; omega
        have hr9 : n % 10 < 10 := Nat.mod_lt _ (by omega)
        obtain ⟨r, hr⟩ : ∃ r, n % 10 = r := ⟨_, rfl⟩
        obtain ⟨d, hd⟩ : ∃ d, n / 10 = d := ⟨_, rfl⟩
        have HDG : Hid (digs n = digs d ++ strOfNums [48 + (r : Int)]) := by rw [Hid, ← hr, ← hd]; exact digs_pos (by omega)
        have hdn : d < n := by omega
        rw [hr] at hr9 hmod
        rw [hd] at hdiv
        clear hr hd
        have hw1 : IntKind.i64.wrap (48 + (r : Int)) = 48 + (r : Int) := IntWalk.i64_in _ (by omega)
        have hw8 : IntKind.u8.wrap (48 + (r : Int)) = 48 + (r : Int) := by simp [IntKind.wrap, IntKind.bits, IntKind.signed]; omega
        have hconv := run_convert_bytes_arg (P := Tq.prog) (wr.alloc (.cells #[.int .u8 (48 + (r : Int))] 5)) 22 5 Tq.underlying22 Tq.underlying5 wr.heap.size 0 1 1 [48 + (r : Int)] rfl (fun i hi => by
          obtain rfl : i = 0 := by omega
          exact World.cell?_alloc_new wr _ _ 0) 9 Tq.underlying9
        have HB2 : Hid (Below G w (wr.alloc (.cells #[.int .u8 (48 + (r : Int))] 5))) := hB.alloc hGw _
        have hz1 : (strOfNums [48 + (r : Int)]).size = 1 := by simp [strOfNums_size]
        have hz2 : (strOfNums [48 + (r : Int)] ++ u).size = 1 + u.size := by rw [ByteArray.size_append, hz1]
        have HDS : Hid (digs d ++ (strOfNums [48 + (r : Int)] ++ u) = digs n0) := by rw [Hid, ← app_assoc, ← HDG.out]; exact hD.out
        go_wp2
        refine ⟨⟨d, _, by omega, rfl, rfl, HDS, by rw [hz2]; omega, HB2.out⟩, ?_⟩
        simp [intOf]; omega
      · have hd2 : decide ((0 : Int) < (n : Int)) = false := decide_eq_false (by omega)
        obtain rfl : n = 0 := by omega
        have HU : Hid (u = digs n0) := by have := hD.out; rw [digs_zero] at this; simpa [Hid] using this
        go_wp2
        go_ret
        exact ⟨ret_str (by rw [HS.out, HU.out]), hBw⟩

/-- The marks from k on, of n piles. -/
def marksP (k : Int) (n : Nat) : List Pl := (List.range n).map fun (i : Nat) => (mT (k + 2 * (i : Int)), k + 2 * (i : Int) + 1)
theorem marksP_length (k : Int) (n : Nat) : (marksP k n).length = n := by simp [marksP]
theorem marksP_succ (k : Int) (n : Nat) : marksP k (n + 1) = marksP k n ++ [(mT (k + 2 * (n : Int)), k + 2 * (n : Int) + 1)] := by simp [marksP, List.range_succ]
/-- The first j are marked. -/
def markToP (ps : List Pl) (k : Int) (j : Nat) : List Pl := marksP k j ++ ps.drop j
theorem markToP_zero (ps : List Pl) (k : Int) : markToP ps k 0 = ps := by simp [markToP, marksP]
theorem markToP_all (ps : List Pl) (k : Int) : markToP ps k ps.length = marksP k ps.length := by simp [markToP]
theorem markToP_length {ps : List Pl} {k : Int} {j : Nat} (h : j ≤ ps.length) : (markToP ps k j).length = ps.length := by simp [markToP, marksP_length]; omega
theorem markToP_step {ps : List Pl} {k : Int} {j : Nat} (h : j < ps.length) : (markToP ps k j).set j (mT (k + 2 * (j : Int)), k + 2 * (j : Int) + 1) = markToP ps k (j + 1) := by
  unfold markToP
  rw [marksP_succ, List.drop_eq_getElem_cons h, List.set_append_right _ _ (by rw [marksP_length]; exact Nat.le_refl _), marksP_length, Nat.sub_self, List.set_cons_zero, List.append_assoc]
  rfl
theorem owns_low {w w' : World} {base n size : Nat} {e : TypeId} {v : Value} {xs : List Value} {row : Option Nat} (h : w.ownsRow base e size v n xs) (hg : w.grownBy w' row) (hr : ∀ i, row = some i → i < base) : w'.ownsRow base e size v n xs := by
  refine h.kept hg ?_
  cases hb : v.ownBlock with
  | none => exact .inl rfl
  | some i => have := (h.lt i hb).1; right; intro e2; have := hr i e2.symm; omega
theorem below_grown {w w' : World} (hb : Below w.heap.size w w') (row : Option Nat) : w.grownBy w' row := ⟨hb.os, hb.tape, hb.output, hb.size, fun k hk _ => hb.block k hk⟩

set_option maxRecDepth 100000 in
set_option maxHeartbeats 4000000 in
/-- **markPileS**, at a row of the caller's own: that block alone is written. -/
theorem markP_any (base : Nat) (a : Option Addr) (len cap : Nat) (ps : List Pl) (k : Int) (w : World) (h : w.ownsRow base 48 2 (.slice a len cap) len (cellsP ps)) (hl : len ≤ 1048600) (hk0 : 0 ≤ k) (hk : k ≤ 10000000) :
    Calls Tq.prog 42 #[.slice a len cap, .int .i64 k] w fun e w' => e = .returned (.int .i64 (k + 2 * (len : Int))) ∧ w'.ownsRow base 48 2 (.slice a len cap) len (cellsP (marksP k len)) ∧ w.grownBy w' (Value.slice a len cap).ownBlock := by
  have hpl : ps.length = len := by have h1 := h.1; rw [cellsP_length] at h1; omega
  have HPL := Lib.hid hpl; clear hpl
  have HO : Hid (w.ownsRow base 48 2 (.slice a len cap) len (cellsP (markToP ps k 0))) := by rw [markToP_zero]; exact h
  clear h
  obtain ⟨row, hrow⟩ : ∃ row, (Value.slice a len cap).ownBlock = row := ⟨_, rfl⟩
  have HROW := Lib.hid hrow
  have HG0 : Hid (w.grownBy w row) := ⟨rfl, rfl, rfl, Nat.le_refl _, fun _ _ _ => rfl⟩
  rw [hrow]
  clear hrow
  go_enter Tq.func42, Tq.ntmps42
  go_wp2
  go_loopw [1, 5] (fun q i wr => ∃ j : Nat, j ≤ len ∧ i = .int .i64 j ∧ q = .int .i64 (k + 2 * (j : Int)) ∧ Hid (wr.ownsRow base 48 2 (.slice a len cap) len (cellsP (markToP ps k j))) ∧ Hid (w.grownBy wr row)) (fun _ i _ => len - (intOf i).toNat)
  case atStart => exact ⟨0, Nat.zero_le _, rfl, by simp, HO, HG0⟩
  case round =>
    obtain ⟨j, hj, rfl, rfl, ho, hG⟩ := hrel
    by_cases hlt : j < len
    · obtain ⟨g, c', hv⟩ := some_of_owns ho.out (by omega)
      injection hv with e1 _ e3
      subst e1; subst e3
      have hrg : row = some g := HROW.out.symm
      obtain ⟨s, hs⟩ : ∃ s, mT (k + 2 * (j : Int)) = s := ⟨_, rfl⟩
      obtain ⟨q, hq⟩ : ∃ q, k + 2 * (j : Int) = q := ⟨_, rfl⟩
      have hjp : j < ps.length := by rw [HPL.out]; exact hlt
      have hjm : j < (markToP ps k j).length := by rw [markToP_length (by omega)]; exact hjp
      have HST : Hid ((markToP ps k j).set j (s, q + 1) = markToP ps k (j + 1)) := by rw [Hid, ← hs, ← hq]; exact markToP_step hjp
      have hq0 : 0 ≤ q ∧ q ≤ 20000000 := by omega
      have hqj : k + 2 * ((j : Int) + 1) = q + 1 + 1 := by omega
      rw [hq] at hs ⊢
      have HS := Lib.hid hs
      clear hs hq
      have hw1 : IntKind.i64.wrap (q + 1) = q + 1 := IntWalk.i64_in _ (by omega)
      have hw2 : IntKind.i64.wrap (q + 1 + 1) = q + 1 + 1 := IntWalk.i64_in _ (by omega)
      go_wp2_with fail
      refine (markText_as q s _ (by omega) (by omega) HS.out).mono ?_
      rintro e w1 ⟨rfl, hb1⟩
      have O1 := Lib.hid (owns_below ho.out hb1)
      have S1 := Lib.hid (O1.out.stored (j * 2) (.string s))
      have S2 := Lib.hid (S1.out.1.stored (j * 2 + 1) (.int .i64 (q + 1)))
      have x0 : w1.cell? ⟨g, j * 2, none⟩ = some (.string (tAt (markToP ps k j) j)) := by rw [O1.out.cellAt (j * 2) (by omega)]; exact cellsP_text _ j hjm
      have f0 : w1.frozen? ⟨g, j * 2, none⟩ = false := O1.out.frozenAt (j * 2)
      have x1 : (w1.setCell ⟨g, j * 2, none⟩ (.string s)).cell? ⟨g, j * 2 + 1, none⟩ = some (.int .i64 (mAt (markToP ps k j) j)) := by
        rw [S1.out.1.cellAt (j * 2 + 1) (by omega), List.getElem?_set_ne (by omega)]
        exact cellsP_many _ j hjm
      have f1 : (w1.setCell ⟨g, j * 2, none⟩ (.string s)).frozen? ⟨g, j * 2 + 1, none⟩ = false := S1.out.1.frozenAt (j * 2 + 1)
      have GG : Hid (w.grownBy ((w1.setCell ⟨g, j * 2, none⟩ (.string s)).setCell ⟨g, j * 2 + 1, none⟩ (.int .i64 (q + 1))) row) := by
        rw [hrg] at hG ⊢
        exact ((hG.out.trans (below_grown hb1 _)).trans S1.out.2).trans S2.out.2
      clear hb1 hrg
      go_wp2
      go_roundw
      case rel => exact ⟨j + 1, by omega, by go_num, by push_cast; rw [hqj], by rw [Hid, ← HST.out, ← cells_set2 hjm]; exact S2.out.1, GG⟩
      case measure => simp [intOf]; omega
    · obtain rfl : j = len := by omega
      go_wp2
      go_ret
      refine ⟨rfl, ?_, hG.out⟩
      have := ho.out
      rw [← HPL.out, markToP_all] at this
      rw [← HPL.out]; exact this

end Go.Proofs.Ytgkakgibgfehaaa

namespace Go.Proofs.Ytgkakgibgfehaaa
open Go.RowKit

set_option maxRecDepth 100000 in
set_option maxHeartbeats 4000000 in
/-- **markBoolS**, at a row of the caller's own: that block alone is written. -/
theorem markB_any (base : Nat) (a : Option Addr) (len cap : Nat) (zs : List Bool) (k : Int) (w : World) (h : w.ownsRow base 4 1 (.slice a len cap) len (zs.map Value.bool)) (hl : len ≤ 1048600) (hk0 : 0 ≤ k) (hk : k ≤ 10000000) :
    Calls Tq.prog 43 #[.slice a len cap, .int .i64 k] w fun e w' => e = .returned (.int .i64 (k + (len : Int))) ∧ w.grownBy w' (Value.slice a len cap).ownBlock := by
  have hzl : zs.length = len := by have h1 := h.1; simpa using h1
  obtain ⟨row, hrow⟩ : ∃ row, (Value.slice a len cap).ownBlock = row := ⟨_, rfl⟩
  have HROW := Lib.hid hrow
  have HO : Hid (∃ ys : List Bool, ys.length = len ∧ w.ownsRow base 4 1 (.slice a len cap) len (ys.map Value.bool)) := ⟨zs, hzl, h⟩
  have HG0 : Hid (w.grownBy w row) := ⟨rfl, rfl, rfl, Nat.le_refl _, fun _ _ _ => rfl⟩
  rw [hrow]
  clear hrow h hzl
  go_enter Tq.func43, Tq.ntmps43
  go_wp2
  go_loopw [1, 5] (fun q i wr => ∃ j : Nat, j ≤ len ∧ i = .int .i64 j ∧ q = .int .i64 (k + (j : Int)) ∧ Hid (∃ ys : List Bool, ys.length = len ∧ wr.ownsRow base 4 1 (.slice a len cap) len (ys.map Value.bool)) ∧ Hid (w.grownBy wr row)) (fun _ i _ => len - (intOf i).toNat)
  case atStart => exact ⟨0, Nat.zero_le _, rfl, by simp, HO, HG0⟩
  case round =>
    obtain ⟨j, hj, rfl, rfl, hO, hG⟩ := hrel
    obtain ⟨ys, hyl, ho⟩ := hO.out
    clear hO HO
    have HY := Lib.hid hyl; clear hyl
    have HOO := Lib.hid ho; clear ho
    by_cases hlt : j < len
    · obtain ⟨g, c', hv⟩ := some_of_owns HOO.out (by omega)
      injection hv with e1 _ e3
      subst e1; subst e3
      have hrg : row = some g := HROW.out.symm
      have hjy : j < (ys.map Value.bool).length := by simp; rw [HY.out]; exact hlt
      have hcg : ∃ b, wr.cell? ⟨g, j, none⟩ = some (.bool b) := by
        have h1 := HOO.out.cellAt j (by omega)
        rw [List.getElem?_eq_getElem hjy, List.getElem_map] at h1
        exact ⟨_, h1⟩
      obtain ⟨b0, hcg⟩ := hcg
      have hfz : wr.frozen? ⟨g, j, none⟩ = false := HOO.out.frozenAt j
      have HS : ∀ b : Bool, Hid ((wr.setCell ⟨g, j, none⟩ (.bool b)).ownsRow base 4 1 (.slice (some ⟨g, 0, none⟩) len cap) len ((ys.set j b).map Value.bool)) := fun b => by
        rw [Hid, List.map_set]; exact (HOO.out.stored j (.bool b)).1
      have HT : ∀ b : Bool, Hid (w.grownBy (wr.setCell ⟨g, j, none⟩ (.bool b)) row) := fun b => by
        rw [hrg] at hG ⊢
        exact hG.out.trans (HOO.out.stored j (.bool b)).2
      obtain ⟨m, hm⟩ : ∃ m, (k + (j : Int)).tmod 3 = m := ⟨_, rfl⟩
      have hkw : IntKind.i64.wrap (k + (j : Int) + 1) = k + (j : Int) + 1 := IntWalk.i64_in _ (by omega)
      have hk2 : k + ((j : Int) + 1) = k + (j : Int) + 1 := by omega
      clear hjy hrg hG
      go_wp2
      go_roundw
      case rel => exact ⟨j + 1, by omega, by go_num, by push_cast; rw [hk2], ⟨_, by rw [List.length_set]; exact HY.out, (HS _).out⟩, HT _⟩
      case measure => simp [intOf]; omega
    · obtain rfl : j = len := by omega
      go_wp2
      go_ret
      exact ⟨rfl, hG.out⟩
end Go.Proofs.Ytgkakgibgfehaaa

namespace Go.Proofs.Ytgkakgibgfehaaa
open Go.RowKit

/-- Ascending numbers from k on. -/
def marks (k : Int) (n : Nat) : List Int := (List.range n).map fun (j : Nat) => k + (j : Int)
theorem marks_succ (k : Int) (n : Nat) : marks k (n + 1) = marks k n ++ [k + (n : Int)] := by simp [marks, List.range_succ]
theorem marks_at (k : Int) (n j : Nat) (h : j < n) : (marks k n)[j]?.getD 0 = k + (j : Int) := by simp [marks, h]

/-- The first j are marked. -/
def markTo (xs : List Value) (k : Int) (j : Nat) : List Value := (marks k j).map (Value.int .i64) ++ xs.drop j
theorem markTo_step (xs : List Value) (k : Int) (j : Nat) (h : j < xs.length) : (markTo xs k j).set j (.int .i64 (k + (j : Int))) = markTo xs k (j + 1) := by
  have hl : ((marks k j).map (Value.int .i64)).length = j := by simp [marks]
  unfold markTo
  rw [marks_succ, List.map_append, List.append_assoc, List.set_append_right _ _ (by omega), hl, Nat.sub_self, List.drop_eq_getElem_cons h, List.set_cons_zero]
  rfl

set_option maxHeartbeats 1000000 in
/-- **markIntS**. -/
theorem markInt_any (base : Nat) (a : Option Addr) (len cap : Nat) (xs : List Value) (k : Int) (w : World) (h : w.ownsRow base 3 1 (.slice a len cap) len xs) (hl : len ≤ 1048600) (hk0 : 0 ≤ k) (hk : k ≤ 1000000000000) :
    Calls Tq.prog 44 #[.slice a len cap, .int .i64 k] w fun e w' => e = .returned (.int .i64 (k + (len : Int))) ∧ w'.ownsRow base 3 1 (.slice a len cap) len ((marks k len).map (Value.int .i64)) ∧ Below base w w' := by
  have hxl : xs.length = len := by have := h.1; omega
  have HX := Lib.hid hxl; clear hxl
  have HO : Hid (w.ownsRow base 3 1 (.slice a len cap) len (markTo xs k 0)) := by unfold Hid; simpa [markTo, marks] using h
  clear h
  go_enter Tq.func44, Tq.ntmps44
  go_wp2
  go_loopw [1, 5] (fun q i wr => ∃ j : Nat, j ≤ len ∧ i = .int .i64 j ∧ q = .int .i64 (k + (j : Int)) ∧ Hid (wr.ownsRow base 3 1 (.slice a len cap) len (markTo xs k j)) ∧ Below base w wr) (fun _ i _ => len - (intOf i).toNat)
  case atStart => exact ⟨0, Nat.zero_le _, rfl, by simp, HO, Below.refl _ _⟩
  case round =>
    obtain ⟨j, hj, rfl, rfl, ho, hB⟩ := hrel
    by_cases hlt : j < len
    · obtain ⟨g, hg, hgb⟩ : ∃ g, a = some ⟨g, 0, none⟩ ∧ base ≤ g := by
        rcases ho.out.2 with ⟨_, e0⟩ | ⟨g, c, _, e, hb, _⟩
        · omega
        · injection e with e1 _ _; exact ⟨g, e1, hb⟩
      subst hg
      have hfz := ho.out.frozenAt j
      have hcg := ho.out.cellAt j (by omega)
      have hlen : j < (markTo xs k j).length := by simp [markTo, marks, HX.out]; omega
      rw [List.getElem?_eq_getElem hlen] at hcg
      obtain ⟨v0, hv0⟩ : ∃ v0, (markTo xs k j)[j] = v0 := ⟨_, rfl⟩
      rw [hv0] at hcg
      clear hv0 hlen
      have HS := Lib.hid (ho.out.stored j (.int .i64 (k + (j : Int))))
      go_wp2
      go_roundw
      case rel => exact ⟨j + 1, by omega, by go_num, by push_cast; rw [Int.add_assoc], by unfold Hid; rw [← markTo_step xs k j (by rw [HX.out]; exact hlt)]; exact HS.out.1, hB.setCell (p := ⟨g, j, none⟩) hgb _⟩
      case measure => simp [intOf]; omega
    · obtain rfl : j = len := by omega
      go_wp2
      go_ret
      refine ⟨rfl, ?_, hB⟩
      have := ho.out
      rwa [markTo, List.drop_of_length_le (by rw [HX.out]; omega), List.append_nil] at this

set_option maxHeartbeats 1000000 in
/-- **heldIntS**. -/
theorem heldInt_any (a : Option Addr) (len cap : Nat) (k : Int) (w : World) (h : IsInts w a len cap (marks k len)) (hk0 : 0 ≤ k) (hk : k ≤ 1000000000000) :
    Calls Tq.prog 45 #[.slice a len cap, .int .i64 k] w fun e w' => e = .returned (.int .i64 (k + (len : Int))) ∧ w = w' := by
  have hm := h.2.2.1
  have H4 := Lib.hid h.2.2.2; clear h
  go_enter Tq.func45, Tq.ntmps45
  go_wp2
  go_loop [1, 5] (fun q i => ∃ j : Nat, j ≤ len ∧ i = .int .i64 j ∧ q = .int .i64 (k + (j : Int))) (fun _ i => len - (intOf i).toNat)
  case atStart => exact ⟨0, Nat.zero_le _, rfl, by simp⟩
  case round =>
    obtain ⟨j, hj, rfl, rfl⟩ := hrel
    by_cases hlt : j < len
    · obtain ⟨b, o, rfl, hb, hc⟩ := H4.out (by omega)
      have hz := hc j hlt
      rw [marks_at k len j hlt] at hz
      clear hc
      have hne : (k + (j : Int) != k + (j : Int)) = false := by simp
      go_wp2
      go_round
      case rel => exact ⟨j + 1, by omega, by go_num, by push_cast; rw [Int.add_assoc]⟩
      case measure => simp [intOf]; omega
    · obtain rfl : j = len := by omega
      go_wp2
      go_ret
      exact ⟨rfl, rfl⟩

end Go.Proofs.Ytgkakgibgfehaaa

namespace Go.Proofs.Ytgkakgibgfehaaa
open Go.RowKit

/-- The slice value reads as the rows rs. -/
def IsRows (w : World) (a : Option Addr) (len cap : Nat) (rs : List (List Int)) : Prop :=
  rs.length = len ∧ len ≤ cap ∧ len ≤ 1048600 ∧ (0 < len → ∃ b off, a = some ⟨b, off, none⟩ ∧ b < w.heap.size ∧
    ∀ j, j < len → ∃ aj lj cj, w.cell? ⟨b, off + j, none⟩ = some (.slice aj lj cj) ∧ IsInts w aj lj cj (rs[j]?.getD []))

theorem IsRows.below {w w' : World} {a : Option Addr} {len cap : Nat} {rs : List (List Int)} (h : IsRows w a len cap rs) (hb : Below w.heap.size w w') : IsRows w' a len cap rs := by
  obtain ⟨h1, h2, h3, h4⟩ := h
  refine ⟨h1, h2, h3, fun hl => ?_⟩
  obtain ⟨b, off, e, hlt, hc⟩ := h4 hl
  refine ⟨b, off, e, Nat.lt_of_lt_of_le hlt hb.size, fun j hj => ?_⟩
  obtain ⟨aj, lj, cj, hcj, hj2⟩ := hc j hj
  exact ⟨aj, lj, cj, (hb.cell (p := ⟨b, off + j, none⟩) hlt).trans hcj, hj2.below hb⟩
theorem IsRows.dr {w w' : World} {a : Option Addr} {len cap : Nat} {rs : List (List Int)} (h : IsRows w a len cap rs) (hd : Dr w w') : IsRows w' a len cap rs := h.below (hd.below _)

end Go.Proofs.Ytgkakgibgfehaaa

namespace Go.Proofs.Ytgkakgibgfehaaa
open Go.RowKit

/-- The first k of len rows (of type R) are made: the j-th is block G j (capacity C j), its n cells (of type E) are F j. -/
structure Tb (E R : TypeId) (w : World) (base : Nat) (a : Option Addr) (len cap k n : Nat) (G C : Nat → Nat) (F : Nat → Nat → Value) : Prop where
  outer : ∃ V, w.ownsRow base R 1 (.slice a len cap) len V ∧ ∀ j, j < k → V[j]? = some (.slice (some ⟨G j, 0, none⟩) n (C j))
  inner : ∀ j, j < k → w.ownsRow base E 1 (.slice (some ⟨G j, 0, none⟩) n (C j)) n ((List.range n).map (F j))
  order : ∀ i j, i < j → j < k → G i < G j

theorem range_cell {n : Nat} (f : Nat → Value) {j : Nat} (h : j < n) : ((List.range n).map f)[j]? = some (f j) := by simp [h]
theorem owns_type {w : World} {base base' n n' c c' g : Nat} {E R : TypeId} {xs ys : List Value} (h : w.ownsRow base E 1 (.slice (some ⟨g, 0, none⟩) n c) n xs) (h' : w.ownsRow base' R 1 (.slice (some ⟨g, 0, none⟩) n' c') n' ys) : E = R := by
  rcases h.2 with ⟨e, _⟩ | ⟨g1, c1, cur1, e1, _, hg1, _⟩
  · simp at e
  · rcases h'.2 with ⟨e, _⟩ | ⟨g2, c2, cur2, e2, _, hg2, _⟩
    · simp at e
    · injection e1 with e1 _ _
      injection e2 with e2 _ _
      injection e1 with e1
      injection e1 with e1 _ _
      injection e2 with e2
      injection e2 with e2 _ _
      subst e1
      subst e2
      rw [hg1] at hg2
      injection hg2 with hg2
      injection hg2 with _ hg2 _

namespace Tb
variable {E R : TypeId} {w w' : World} {base len cap k n : Nat} {a : Option Addr} {G C : Nat → Nat} {F F' : Nat → Nat → Value}

theorem lt (h : Tb E R w base a len cap k n G C F) {j : Nat} (hj : j < k) : base ≤ G j ∧ G j < w.heap.size := (h.inner j hj).lt (G j) rfl
theorem congr (h : Tb E R w base a len cap k n G C F) (he : ∀ i j, i < k → j < n → F i j = F' i j) : Tb E R w base a len cap k n G C F' :=
  ⟨h.outer, fun i hi => by
    have e : (List.range n).map (F' i) = (List.range n).map (F i) := List.map_congr_left (fun j hj => (he i j hi (List.mem_range.1 hj)).symm)
    rw [e]; exact h.inner i hi, h.order⟩
theorem mono {base' : Nat} (h : Tb E R w base a len cap k n G C F) (hb : base' ≤ base) : Tb E R w base' a len cap k n G C F :=
  ⟨by obtain ⟨V, h1, h2⟩ := h.outer; exact ⟨V, World.ownsRow.mono h1 hb, h2⟩, fun j hj => World.ownsRow.mono (h.inner j hj) hb, h.order⟩
theorem cell (h : Tb E R w base a len cap k n G C F) {x y : Nat} (hx : x < k) (hy : y < n) : w.cell? ⟨G x, y, none⟩ = some (F x y) := by
  rw [(h.inner x hx).cellAt y (by omega)]; exact range_cell _ hy
theorem ne (h : Tb E R w base a len cap k n G C F) {i j : Nat} (hi : i < k) (hj : j < k) (hne : i ≠ j) : G i ≠ G j := by
  rcases Nat.lt_or_gt_of_ne hne with g | g
  · have := h.order i j g hj; omega
  · have := h.order j i g hi; omega
theorem out_ne {g : Nat} (hER : E ≠ R) (h : Tb E R w base (some ⟨g, 0, none⟩) len cap k n G C F) {j : Nat} (hj : j < k) : G j ≠ g := by
  intro e
  obtain ⟨V, h1, h2⟩ := h.outer
  have h3 := h.inner j hj
  rw [e] at h3
  exact hER (owns_type h3 h1)

/-- A cell of a row is written. -/
theorem set (hER : E ≠ R) (h : Tb E R w base a len cap k n G C F) {x y : Nat} (hx : x < k) (hy : y < n) (v : Value) :
    Tb E R (w.setCell ⟨G x, y, none⟩ v) base a len cap k n G C (fun i j => if i = x ∧ j = y then v else F i j) ∧ w.grownBy (w.setCell ⟨G x, y, none⟩ v) (some (G x)) := by
  have hs := (h.inner x hx).stored y v
  refine ⟨⟨?_, fun j hj => ?_, h.order⟩, hs.2⟩
  · obtain ⟨V, h1, h2⟩ := h.outer
    refine ⟨V, h1.kept hs.2 ?_, h2⟩
    cases hb : (Value.slice a len cap).ownBlock with
    | none => exact .inl rfl
    | some b =>
      right
      intro e
      injection e with e
      cases a with
      | none => simp [Value.ownBlock] at hb
      | some ad =>
        have h0 := h1
        rcases h0.2 with ⟨e0, _⟩ | ⟨g, c, cur, e1, _, hg, _⟩
        · simp at e0
        · injection e1 with e1 _ _
          injection e1 with e1
          subst e1
          simp [Value.ownBlock] at hb
          exact out_ne hER h hx (by omega)
  · by_cases e : j = x
    · subst e
      have e2 : (List.range n).map (fun y' => if j = j ∧ y' = y then v else F j y') = ((List.range n).map (F j)).set y v := by
        apply List.ext_getElem
        · simp
        · intro i h1 h2
          simp only [List.getElem_map, List.getElem_range, List.getElem_set, true_and]
          by_cases e3 : i = y
          · subst e3; simp
          · rw [if_neg e3, if_neg (fun e4 => e3 e4.symm)]
      rw [e2]; exact hs.1
    · have e2 : (List.range n).map (fun y' => if j = x ∧ y' = y then v else F j y') = (List.range n).map (F j) := by
        refine List.map_congr_left (fun i _ => ?_)
        rw [if_neg (fun g => e g.1)]
      rw [e2]
      exact (h.inner j hj).kept hs.2 (.inr (by simp [Value.ownBlock]; exact h.ne hj hx e))

end Tb

end Go.Proofs.Ytgkakgibgfehaaa

namespace Go.Proofs.Ytgkakgibgfehaaa
open Go.RowKit

theorem eqIntS_self (a : Option Addr) (len cap : Nat) (zs : List Int) (b : Option Addr) (cap' : Nat) (w : World) (h : IsInts w a len cap zs) (h' : IsInts w b len cap' zs) :
    Calls Tq.prog 39 #[.slice a len cap, .slice b len cap'] w fun e w' => e = .returned (.bool true) ∧ Dr w w' :=
  (eqIntS_any a len cap zs b len cap' zs w h h').mono fun e w' ⟨he, hd⟩ => ⟨by rw [he, eqB_self], hd⟩
end Go.Proofs.Ytgkakgibgfehaaa

namespace Go.Proofs.Ytgkakgibgfehaaa
open Go.RowKit
theorem told_nilE {w w' : World} (hb : Below w.heap.size w w') : Told w [] false (.returned (.tuple #[.slice none 0 0, .bool false])) w' :=
  ⟨none, 0, rfl, ⟨rfl, .inl ⟨rfl, rfl⟩⟩, hb⟩
/-- **impl.FirstCounts**: the answer is memory of its own. -/
theorem implCounts_own (pa : Option Addr) (l ca : Nat) (ps : List Pl) (pb : Option Addr) (m cb : Nat) (L : List Bool) (v : Bool) (zs : List Int) (w : World) (hps : IsPiles w pa l ca ps) (hsm : Small ps) (hbs : IsBools w pb m cb L) (hv : fitsB ps (m : Int) = v) (hz : (if v then countsL ps L else []) = zs) :
    Calls Tq.prog 15 #[.slice pa l ca, .slice pb m cb] w (Told w zs v) := by
  have hm : L.length = m := hbs.1
  refine (implCounts_as pa l ca ps pb m cb L v w hps hsm hbs hv).mono fun e w' ⟨hb, hc⟩ => ?_
  rcases hc with ⟨rfl, rfl⟩ | ⟨rfl, g, rfl, ho⟩
  · obtain rfl : [] = zs := by simpa using hz
    exact told_nilE hb
  · have hl : zs.length = m := by rw [← hz, if_pos rfl, countsL_length, hm]
    rw [if_pos rfl] at hz
    rw [hz] at ho
    rw [Told, hl]
    exact ⟨_, _, rfl, ho, hb⟩
end Go.Proofs.Ytgkakgibgfehaaa

