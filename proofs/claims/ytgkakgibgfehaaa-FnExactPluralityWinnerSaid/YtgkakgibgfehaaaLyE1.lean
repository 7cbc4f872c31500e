/-
  What XExPluralityWinnerW, XExPluralityMarginW need besides: of XOpen, XOwn, XLaws, XGrid, XTb, XMarkT, XPiles, XMergeS, XSameP, XDrawPd, XAddI, XTurnI, XPLaw, XPRow, XSumP, XCountP, XLotP, XWinP, XPlurP, XGreatP, XLotQ, XLotI, XGreatI, XLotS, XLotN, XPlurI, XMost, XPlurS.
-/
import Derived.Test.YtgkakgibgfehaaaSh3
import Derived.Test.YtgkakgibgfehaaaSh7
import Derived.Test.YtgkakgibgfehaaaSh26
import Derived.Test.YtgkakgibgfehaaaFaE
import Derived.ProofKit
import Derived.OpenShut
import Derived.ShutString
import Derived.ChangeOld
import Derived.Below
import Derived.Deep.Grids
import Derived.Laws.OwnMore
import Derived.OwnWalk
import Derived.Deep.Onto
import Derived.StillTailTactics
import Derived.Maps.RangeWalk
import Derived.Laws.StructEq
import Derived.Deep.RegionLaw
import Derived.Deep.AppendLies
import Derived.Deep.RegionHeld3
import Derived.Deep.SlicePairs
namespace Go.Proofs.Ytgkakgibgfehaaa
open Go.RowKit

theorem IsBytes.below {w w' : World} {a : Option Addr} {len : Nat} {zs : List Int} (h : IsBytes w a len zs) (hb : Below w.heap.size w w') : IsBytes w' a len zs := by
  obtain ⟨h1, h2, h4⟩ := h
  refine ⟨h1, h2, fun hl => ?_⟩
  obtain ⟨b, off, e, hlt, hc⟩ := h4 hl
  exact ⟨b, off, e, Nat.lt_of_lt_of_le hlt hb.size, fun j hj => (hb.cell (p := ⟨b, off + j, none⟩) hlt).trans (hc j hj)⟩

theorem IsBools.dr {w w' : World} {a : Option Addr} {len cap : Nat} {zs : List Bool} (h : IsBools w a len cap zs) (hd : Dr w w') : IsBools w' a len cap zs := h.below (hd.below _)

end Go.Proofs.Ytgkakgibgfehaaa

namespace Go.Proofs.Ytgkakgibgfehaaa
open Go.RowKit

/-- The first k of zs, then zeros: what toIntS has written when k rounds are over. -/
def fillTo (zs : List Int) (len k : Nat) : List Int := zs.take k ++ List.replicate (len - k) 0
theorem fillTo_step (zs : List Int) (len k : Nat) (hz : zs.length = len) (hk : k < len) : ((fillTo zs len k).map (Value.int .i64)).set k (.int .i64 (zs[k]?.getD 0)) = (fillTo zs len (k + 1)).map (Value.int .i64) := by
  have e : len - k = (len - (k + 1)) + 1 := by omega
  unfold fillTo
  rw [e, List.replicate_succ, List.take_succ_eq_append_getElem (by omega)]
  have hl : ((zs.take k).map (Value.int .i64)).length = k := by simp; omega
  simp only [List.map_append, List.map_cons, List.append_assoc, List.cons_append, List.nil_append]
  rw [List.set_append_right _ _ (by omega), hl, Nat.sub_self, List.set_cons_zero]
  simp [show k < zs.length from by omega]
theorem fillTo_all (zs : List Int) (len : Nat) (hz : zs.length = len) : fillTo zs len len = zs := by simp [fillTo, ← hz]

end Go.Proofs.Ytgkakgibgfehaaa

namespace Go.Proofs.Ytgkakgibgfehaaa
open Go.RowKit

set_option maxHeartbeats 1000000 in
/-- **toIntS**: a new slice with the same ints. -/
theorem toIntS_any (a : Option Addr) (len cap : Nat) (zs : List Int) (w : World) (h : IsInts w a len cap zs) :
    Calls Tq.prog 46 #[.slice a len cap] w fun e w' => ∃ g, e = .returned (.slice (some ⟨g, 0, none⟩) len len) ∧ w'.ownsRow w.heap.size 3 1 (.slice (some ⟨g, 0, none⟩) len len) len (zs.map (Value.int .i64)) ∧ Below w.heap.size w w' := by
  obtain ⟨i0, hi, hz0, hz1, hz2⟩ := info_parts int_info
  have H := Lib.hid h
  have hm : len ≤ 1048600 := h.2.2.1
  clear h
  go_enter Tq.func46, Tq.ntmps46
  go_wp2_with (at_make; refine wpList_make_full _ rfl _ _ 27 rfl w.heap.size 3 i0 (.int .i64 0) 1 Tq.underlying27 hi hz0 hz1 .i64 .i64 _ _ len rfl rfl rfl rfl (by rw [hz2]; omega) (by unfold maxLen; omega) (Nat.le_refl _) ?_; intro w1 hown hgrow)
  have hB1 : Below w.heap.size w w1 := (Below.refl _ w).grown hgrow (Nat.le_refl _) (fun k e => by cases e)
  have HO : Hid (w1.ownsRow w.heap.size 3 1 (.slice (some ⟨w.heap.size, 0, none⟩) len len) len ((fillTo zs len 0).map (Value.int .i64))) := by
    unfold Hid
    have e : (madeCells (Value.int .i64 0).cells (len * 1)).toList = (fillTo zs len 0).map (Value.int .i64) := by
      rw [show (Value.int .i64 0).cells = #[.int .i64 0] from rfl, toList_madeCells_one]; simp [fillTo]
    rw [← e]; exact hown
  clear hown hgrow hi hz0 hz1 hz2
  go_wp2
  go_loopw [4] (fun i wr => ∃ k : Nat, k ≤ len ∧ i = .int .i64 k ∧ Hid (wr.ownsRow w.heap.size 3 1 (.slice (some ⟨w.heap.size, 0, none⟩) len len) len ((fillTo zs len k).map (Value.int .i64))) ∧ Below w.heap.size w wr) (fun i _ => len - (intOf i).toNat)
  case atStart => exact ⟨0, Nat.zero_le _, rfl, HO, hB1⟩
  case round =>
    obtain ⟨k, hk, rfl, ho, hB⟩ := hrel
    have HI := H.out.below hB
    obtain ⟨h1, h2, h3, h4⟩ := HI
    have H1 := Lib.hid h1; clear h1
    have hfz := ho.out.frozenAt k
    by_cases hlt : k < len
    · obtain ⟨b, off, rfl, hb, hcell⟩ := h4 (by omega)
      have hck := hcell k hlt
      have hcg : wr.cell? ⟨w.heap.size, k, none⟩ = some (.int .i64 ((fillTo zs len k)[k]?.getD 0)) := by
        rw [ho.out.cellAt k (by omega)]
        have : k < (fillTo zs len k).length := by simp [fillTo, H1.out]; omega
        simp [this]
      have hst := ho.out.stored k (.int .i64 (zs[k]?.getD 0))
      have HS := Lib.hid hst
      clear hcell h4 hst
      go_wp2
      go_roundw
      case rel => exact ⟨k + 1, by omega, by go_num, by unfold Hid; rw [← fillTo_step zs len k H1.out hlt]; exact HS.out.1, hB.setCell (p := ⟨w.heap.size, k, none⟩) (Nat.le_refl _) _⟩
      case measure => simp [intOf]; omega
    · obtain rfl : k = len := by omega
      clear h4
      go_wp2
      go_ret
      exact ⟨_, rfl, by have := ho.out; rwa [fillTo_all zs k H1.out] at this, hB⟩

set_option maxHeartbeats 1000000 in
/-- **eqIntS**: whether two lists are equal. -/
theorem eqIntS_any (a : Option Addr) (len cap : Nat) (zs : List Int) (b : Option Addr) (len' cap' : Nat) (ys : List Int) (w : World) (h : IsInts w a len cap zs) (h' : IsInts w b len' cap' ys) :
    Calls Tq.prog 39 #[.slice a len cap, .slice b len' cap'] w fun e w' => e = .returned (.bool (eqB zs ys)) ∧ Dr w w' := by
  by_cases hl : len = len'
  · subst hl
    have hne : ((len : Int) != (len : Int)) = false := by simp
    have hm := h.2.2.1
    have H := Lib.hid h; clear h
    have H' := Lib.hid h'; clear h'
    go_enter Tq.func39, Tq.ntmps39
    go_wp2
    go_loopw [5] (fun i wr => ∃ k : Nat, k ≤ len ∧ i = .int .i64 k ∧ Hid (zs.take k = ys.take k) ∧ Dr w wr) (fun i _ => len - (intOf i).toNat)
    case atStart => exact ⟨0, Nat.zero_le _, rfl, by simp [Hid], Dr.refl _⟩
    case round =>
      obtain ⟨k, hk, rfl, ht, hd⟩ := hrel
      obtain ⟨h1, _, _, h4⟩ := H.out.dr hd
      obtain ⟨g1, _, _, g4⟩ := H'.out.dr hd
      have H1 := Lib.hid h1; clear h1
      have G1 := Lib.hid g1; clear g1
      by_cases hlt : k < len
      · obtain ⟨b1, o1, rfl, hb1, hc1⟩ := h4 (by omega)
        obtain ⟨b2, o2, rfl, hb2, hc2⟩ := g4 (by omega)
        have hz := hc1 k hlt
        have hy := hc2 k hlt
        clear hc1 hc2 h4 g4
        cases he : (zs[k]?.getD 0 == ys[k]?.getD 0)
        · have hn : (zs[k]?.getD 0 != ys[k]?.getD 0) = true := by simp [bne, he]
          have HE := Lib.hid he; clear he
          go_wp2
          go_quiet (fail)
          go_wp2
          go_ret
          exact ⟨ret_bool (take_part zs ys k HE.out).symm, hd.drewN _⟩
        · have hn : (zs[k]?.getD 0 != ys[k]?.getD 0) = false := by simp [bne, he]
          have HE := Lib.hid he; clear he
          go_wp2
          go_quiet (fail)
          go_wp2
          go_roundw
          case rel => exact ⟨k + 1, by omega, by go_num, take_step zs ys k (by rw [H1.out]; omega) (by rw [G1.out]; omega) ht.out (by simpa using HE.out), hd.drewN _⟩
          case measure => simp [intOf]; omega
      · obtain rfl : k = len := by omega
        clear h4 g4
        go_wp2
        go_ret
        refine ⟨ret_bool ?_, hd⟩
        have := ht.out
        rw [List.take_of_length_le (by rw [H1.out]; omega), List.take_of_length_le (by rw [G1.out]; omega)] at this
        rw [this, eqB_self]
  · have hne : ((len : Int) != (len' : Int)) = true := by rw [bne_iff_ne]; omega
    have e : eqB zs ys = false := by
      simp only [eqB, decide_eq_false_iff_not]
      rintro rfl
      exact hl (h.1.symm.trans h'.1)
    rw [e]
    clear e h h' hl
    go_enter Tq.func39, Tq.ntmps39
    go_wp2
    go_ret
    exact ⟨rfl, Dr.refl _⟩

end Go.Proofs.Ytgkakgibgfehaaa

namespace Go.Proofs.Ytgkakgibgfehaaa
open Go.RowKit

/-- The slice value reads as the rows rs. -/
def IsRows (w : World) (a : Option Addr) (len cap : Nat) (rs : List (List Int)) : Prop :=
  rs.length = len ∧ len ≤ cap ∧ len ≤ 1048600 ∧ (0 < len → ∃ b off, a = some ⟨b, off, none⟩ ∧ b < w.heap.size ∧
    ∀ j, j < len → ∃ aj lj cj, w.cell? ⟨b, off + j, none⟩ = some (.slice aj lj cj) ∧ IsInts w aj lj cj (rs[j]?.getD []))

theorem IsRows.below {w w' : World} {a : Option Addr} {len cap : Nat} {rs : List (List Int)} (h : IsRows w a len cap rs) (hb : Below w.heap.size w w') : IsRows w' a len cap rs := by
  obtain ⟨h1, h2, h3, h4⟩ := h
  refine ⟨h1, h2, h3, fun hl => ?_⟩
  obtain ⟨b, off, e, hlt, hc⟩ := h4 hl
  refine ⟨b, off, e, Nat.lt_of_lt_of_le hlt hb.size, fun j hj => ?_⟩
  obtain ⟨aj, lj, cj, hcj, hj2⟩ := hc j hj
  exact ⟨aj, lj, cj, (hb.cell (p := ⟨b, off + j, none⟩) hlt).trans hcj, hj2.below hb⟩
theorem IsRows.dr {w w' : World} {a : Option Addr} {len cap : Nat} {rs : List (List Int)} (h : IsRows w a len cap rs) (hd : Dr w w') : IsRows w' a len cap rs := h.below (hd.below _)

end Go.Proofs.Ytgkakgibgfehaaa

namespace Go.Proofs.Ytgkakgibgfehaaa
open Go.RowKit

/-- The first k of len rows (of type R) are made: the j-th is block G j (capacity C j), its n cells (of type E) are F j. -/
structure Tb (E R : TypeId) (w : World) (base : Nat) (a : Option Addr) (len cap k n : Nat) (G C : Nat → Nat) (F : Nat → Nat → Value) : Prop where
  outer : ∃ V, w.ownsRow base R 1 (.slice a len cap) len V ∧ ∀ j, j < k → V[j]? = some (.slice (some ⟨G j, 0, none⟩) n (C j))
  inner : ∀ j, j < k → w.ownsRow base E 1 (.slice (some ⟨G j, 0, none⟩) n (C j)) n ((List.range n).map (F j))
  order : ∀ i j, i < j → j < k → G i < G j

theorem range_cell {n : Nat} (f : Nat → Value) {j : Nat} (h : j < n) : ((List.range n).map f)[j]? = some (f j) := by simp [h]
theorem owns_type {w : World} {base base' n n' c c' g : Nat} {E R : TypeId} {xs ys : List Value} (h : w.ownsRow base E 1 (.slice (some ⟨g, 0, none⟩) n c) n xs) (h' : w.ownsRow base' R 1 (.slice (some ⟨g, 0, none⟩) n' c') n' ys) : E = R := by
  rcases h.2 with ⟨e, _⟩ | ⟨g1, c1, cur1, e1, _, hg1, _⟩
  · simp at e
  · rcases h'.2 with ⟨e, _⟩ | ⟨g2, c2, cur2, e2, _, hg2, _⟩
    · simp at e
    · injection e1 with e1 _ _
      injection e2 with e2 _ _
      injection e1 with e1
      injection e1 with e1 _ _
      injection e2 with e2
      injection e2 with e2 _ _
      subst e1
      subst e2
      rw [hg1] at hg2
      injection hg2 with hg2
      injection hg2 with _ hg2 _

namespace Tb
variable {E R : TypeId} {w w' : World} {base len cap k n : Nat} {a : Option Addr} {G C : Nat → Nat} {F F' : Nat → Nat → Value}

theorem lt (h : Tb E R w base a len cap k n G C F) {j : Nat} (hj : j < k) : base ≤ G j ∧ G j < w.heap.size := (h.inner j hj).lt (G j) rfl
theorem congr (h : Tb E R w base a len cap k n G C F) (he : ∀ i j, i < k → j < n → F i j = F' i j) : Tb E R w base a len cap k n G C F' :=
  ⟨h.outer, fun i hi => by
    have e : (List.range n).map (F' i) = (List.range n).map (F i) := List.map_congr_left (fun j hj => (he i j hi (List.mem_range.1 hj)).symm)
    rw [e]; exact h.inner i hi, h.order⟩
theorem mono {base' : Nat} (h : Tb E R w base a len cap k n G C F) (hb : base' ≤ base) : Tb E R w base' a len cap k n G C F :=
  ⟨by obtain ⟨V, h1, h2⟩ := h.outer; exact ⟨V, World.ownsRow.mono h1 hb, h2⟩, fun j hj => World.ownsRow.mono (h.inner j hj) hb, h.order⟩
theorem cell (h : Tb E R w base a len cap k n G C F) {x y : Nat} (hx : x < k) (hy : y < n) : w.cell? ⟨G x, y, none⟩ = some (F x y) := by
  rw [(h.inner x hx).cellAt y (by omega)]; exact range_cell _ hy
theorem ne (h : Tb E R w base a len cap k n G C F) {i j : Nat} (hi : i < k) (hj : j < k) (hne : i ≠ j) : G i ≠ G j := by
  rcases Nat.lt_or_gt_of_ne hne with g | g
  · have := h.order i j g hj; omega
  · have := h.order j i g hi; omega
theorem out_ne {g : Nat} (hER : E ≠ R) (h : Tb E R w base (some ⟨g, 0, none⟩) len cap k n G C F) {j : Nat} (hj : j < k) : G j ≠ g := by
  intro e
  obtain ⟨V, h1, h2⟩ := h.outer
  have h3 := h.inner j hj
  rw [e] at h3
  exact hER (owns_type h3 h1)

/-- A cell of a row is written. -/
theorem set (hER : E ≠ R) (h : Tb E R w base a len cap k n G C F) {x y : Nat} (hx : x < k) (hy : y < n) (v : Value) :
    Tb E R (w.setCell ⟨G x, y, none⟩ v) base a len cap k n G C (fun i j => if i = x ∧ j = y then v else F i j) ∧ w.grownBy (w.setCell ⟨G x, y, none⟩ v) (some (G x)) := by
  have hs := (h.inner x hx).stored y v
  refine ⟨⟨?_, fun j hj => ?_, h.order⟩, hs.2⟩
  · obtain ⟨V, h1, h2⟩ := h.outer
    refine ⟨V, h1.kept hs.2 ?_, h2⟩
    cases hb : (Value.slice a len cap).ownBlock with
    | none => exact .inl rfl
    | some b =>
      right
      intro e
      injection e with e
      cases a with
      | none => simp [Value.ownBlock] at hb
      | some ad =>
        have h0 := h1
        rcases h0.2 with ⟨e0, _⟩ | ⟨g, c, cur, e1, _, hg, _⟩
        · simp at e0
        · injection e1 with e1 _ _
          injection e1 with e1
          subst e1
          simp [Value.ownBlock] at hb
          exact out_ne hER h hx (by omega)
  · by_cases e : j = x
    · subst e
      have e2 : (List.range n).map (fun y' => if j = j ∧ y' = y then v else F j y') = ((List.range n).map (F j)).set y v := by
        apply List.ext_getElem
        · simp
        · intro i h1 h2
          simp only [List.getElem_map, List.getElem_range, List.getElem_set, true_and]
          by_cases e3 : i = y
          · subst e3; simp
          · rw [if_neg e3, if_neg (fun e4 => e3 e4.symm)]
      rw [e2]; exact hs.1
    · have e2 : (List.range n).map (fun y' => if j = x ∧ y' = y then v else F j y') = (List.range n).map (F j) := by
        refine List.map_congr_left (fun i _ => ?_)
        rw [if_neg (fun g => e g.1)]
      rw [e2]
      exact (h.inner j hj).kept hs.2 (.inr (by simp [Value.ownBlock]; exact h.ne hj hx e))

end Tb

end Go.Proofs.Ytgkakgibgfehaaa

namespace Go.Proofs.Ytgkakgibgfehaaa
open Go.RowKit

theorem eqIntS_self (a : Option Addr) (len cap : Nat) (zs : List Int) (b : Option Addr) (cap' : Nat) (w : World) (h : IsInts w a len cap zs) (h' : IsInts w b len cap' zs) :
    Calls Tq.prog 39 #[.slice a len cap, .slice b len cap'] w fun e w' => e = .returned (.bool true) ∧ Dr w w' :=
  (eqIntS_any a len cap zs b len cap' zs w h h').mono fun e w' ⟨he, hd⟩ => ⟨by rw [he, eqB_self], hd⟩
end Go.Proofs.Ytgkakgibgfehaaa

namespace Go.Proofs.Ytgkakgibgfehaaa
open Go.RowKit

theorem IsPiles.dr {w w' : World} {a : Option Addr} {len cap : Nat} {ps : List Pl} (h : IsPiles w a len cap ps) (hd : Dr w w') : IsPiles w' a len cap ps := h.below (hd.below _)
end Go.Proofs.Ytgkakgibgfehaaa

namespace Go.Proofs.Ytgkakgibgfehaaa
open Go.RowKit

theorem Small.take {ps : List Pl} (h : Small ps) (k : Nat) : Small (ps.take k) := Small.of fun q hq => by
  obtain ⟨i, hi, e⟩ := List.mem_iff_getElem.1 (List.mem_of_mem_take hq)
  have := h i
  unfold tAt at this
  rw [← e]
  simpa [hi] using this
end Go.Proofs.Ytgkakgibgfehaaa

namespace Go.Proofs.Ytgkakgibgfehaaa
open Go.RowKit

def eqP (xs ys : List Pl) : Bool := decide (xs = ys)
theorem eqP_self (xs : List Pl) : eqP xs xs = true := by simp [eqP]
theorem takeP_step {xs ys : List Pl} {k : Nat} (hx : k < xs.length) (hy : k < ys.length) (h : xs.take k = ys.take k) (ht : tAt xs k = tAt ys k) (hm : mAt xs k = mAt ys k) : xs.take (k + 1) = ys.take (k + 1) := by
  rw [take_one hx, take_one hy, h, ht, hm]
theorem takeP_part {xs ys : List Pl} {k : Nat} (h : ¬ (tAt xs k = tAt ys k ∧ mAt xs k = mAt ys k)) : eqP xs ys = false := by
  simp only [eqP, decide_eq_false_iff_not]
  rintro rfl
  exact h ⟨rfl, rfl⟩

end Go.Proofs.Ytgkakgibgfehaaa

namespace Go.Proofs.Ytgkakgibgfehaaa
open Go.RowKit

theorem HasP.lt {w0 w : World} {ps : List Pl} {g cap : Nat} (h : HasP w0 w ps g cap) : g < w.heap.size := (h.1.lt g rfl).2

end Go.Proofs.Ytgkakgibgfehaaa

namespace Go.Proofs.Ytgkakgibgfehaaa
open Go.RowKit Go.Maps

theorem Small.one {t : ByteArray} {m : Int} (h : t.size ≤ 1048600) : Small [(t, m)] := Small.of fun p hp => by simp at hp; subst hp; exact h
end Go.Proofs.Ytgkakgibgfehaaa

namespace Go.Proofs.Ytgkakgibgfehaaa
open Go.RowKit Go.Maps

theorem Below.grownBy {w w' : World} (h : Below w.heap.size w w') : w.grownBy w' none := ⟨h.os, h.tape, h.output, h.size, fun k hk _ => h.block k hk⟩
end Go.Proofs.Ytgkakgibgfehaaa

namespace Go.Proofs.Ytgkakgibgfehaaa
open Go.RowKit

set_option maxHeartbeats 1000000 in
/-- **szPile**. -/
theorem szPile_any (t : ByteArray) (m L : Int) (w : World) (ht : t.size ≤ maxLen) (hL : 0 ≤ L ∧ L ≤ 1048576) :
    Calls Tq.prog 73 #[.agg #[.string t, .int .i64 m], .int .i64 L] w fun e w' => ∃ v : Int, e = .returned (.int .i64 v) ∧ (0 ≤ v → v ≤ L ∧ t.size ≤ 1048576) ∧ v ≤ L ∧ -1 ≤ v ∧ Below w.heap.size w w' := by
  have hsz : (t.size : Int) ≤ 9223372036854775807 := by unfold maxLen at ht; omega
  have hw : IntKind.i64.wrap (L - (t.size : Int)) = L - (t.size : Int) := IntWalk.i64_in _ (by omega)
  have hB : Below w.heap.size w (w.alloc (.cells #[.string t, .int .i64 m] 84)) := (Below.refl _ w).alloc (Nat.le_refl _) _
  by_cases hneg : L - (t.size : Int) < 0
  · have hd : decide (L - (t.size : Int) < 0) = true := decide_eq_true hneg
    go_enter Tq.func73, Tq.ntmps73
    go_wp2
    go_ret
    exact ⟨-1, rfl, fun h => by omega, by omega, by omega, hB⟩
  · have hd : decide (L - (t.size : Int) < 0) = false := decide_eq_false hneg
    go_enter Tq.func73, Tq.ntmps73
    go_wp2
    go_ret
    exact ⟨_, rfl, fun h => ⟨by omega, by omega⟩, by omega, by omega, hB⟩

/-- Every text is a text of a machine. -/
def Held (ps : List Pl) : Prop := ∀ i, (tAt ps i).size ≤ maxLen

set_option maxRecDepth 100000 in
set_option maxHeartbeats 2000000 in
/-- **szPileS**: not negative only where every text is of at most 1048576 bytes. -/
theorem szPileS_any (a : Option Addr) (len cap : Nat) (ps : List Pl) (L : Int) (w : World) (h : IsPiles w a len cap ps) (hh : Held ps) (hL : 0 ≤ L ∧ L ≤ 1048576) :
    Calls Tq.prog 36 #[.slice a len cap, .int .i64 L] w fun e w' => ∃ v : Int, e = .returned (.int .i64 v) ∧ (0 ≤ v → v ≤ 1048576 ∧ Small ps) ∧ -1 ≤ v ∧ Below w.heap.size w w' := by
  have HI := Lib.hid h
  have HH := Lib.hid hh
  have H1 := Lib.hid h.1
  have hm := h.2.2.1
  obtain ⟨G, hG⟩ : ∃ G, w.heap.size = G := ⟨_, rfl⟩
  clear h hh
  have hw : IntKind.i64.wrap (L - (len : Int)) = L - (len : Int) := IntWalk.i64_in _ (by omega)
  by_cases hneg : L - (len : Int) < 0
  · have hd : decide (L - (len : Int) < 0) = true := decide_eq_true hneg
    go_enter Tq.func36, Tq.ntmps36
    go_wp2
    go_ret
    exact ⟨-1, rfl, fun h => by omega, by omega, Below.refl _ _⟩
  · have hd : decide (L - (len : Int) < 0) = false := decide_eq_false hneg
    go_enter Tq.func36, Tq.ntmps36
    go_wp2
    go_loopw [1, 5] (fun l i wr => ∃ (k : Nat) (x : Int), k ≤ len ∧ i = .int .i64 k ∧ l = .int .i64 x ∧ 0 ≤ x ∧ x ≤ 1048576 ∧ Hid (∀ j, j < k → (tAt ps j).size ≤ 1048576) ∧ Below G w wr) (fun _ i _ => len - (intOf i).toNat)
    case atStart => exact ⟨0, _, Nat.zero_le _, rfl, rfl, by omega, by omega, fun j hj => by omega, Below.refl _ _⟩
    case round =>
      obtain ⟨k, x, hk, rfl, rfl, hx0, hx1, hA, hB⟩ := hrel
      have hBw : Below w.heap.size w wr := hG.symm ▸ hB
      by_cases hlt : k < len
      · obtain ⟨b, off, rfl, hb, c0, c1⟩ := (HI.out.below hBw).piles hlt
        obtain ⟨t, ht⟩ : ∃ t, tAt ps k = t := ⟨_, rfl⟩
        obtain ⟨m, hmm⟩ : ∃ m, mAt ps k = m := ⟨_, rfl⟩
        have hts : t.size ≤ maxLen := by rw [← ht]; exact HH.out k
        rw [ht] at c0
        rw [hmm] at c1
        have HT := Lib.hid ht
        clear ht hmm
        go_wp2_with fail
        refine (szPile_any t m x _ hts ⟨hx0, hx1⟩).mono ?_
        rintro e w1 ⟨v, rfl, hv, hvL, hv1, hb1⟩
        have B1 : Below G w w1 := hB.trans (hb1.mono (by have := hBw.size; omega))
        by_cases hvn : v < 0
        · have hd2 : decide (v < 0) = true := decide_eq_true hvn
          go_wp2
          go_ret
          exact ⟨-1, rfl, fun h => by omega, by omega, hG.symm ▸ B1⟩
        · have hd2 : decide (v < 0) = false := decide_eq_false hvn
          have hv2 := hv (by omega)
          have HA2 : Hid (∀ j, j < k + 1 → (tAt ps j).size ≤ 1048576) := fun j hj => by
            rcases Nat.lt_or_ge j k with g | g
            · exact hA.out j g
            · have : j = k := by omega
              subst this; rw [HT.out]; exact hv2.2
          clear hv
          go_wp2
          go_roundw
          case rel => exact ⟨k + 1, v, by omega, by go_num, rfl, by omega, by omega, HA2, B1⟩
          case measure => simp [intOf]; omega
      · obtain rfl : k = len := by omega
        go_wp2
        go_ret
        refine ⟨x, rfl, fun _ => ⟨hx1, fun i => ?_⟩, by omega, hBw⟩
        rcases Nat.lt_or_ge i k with g | g
        · have := hA.out i g; omega
        · unfold tAt
          rw [List.getElem?_eq_none (by rw [H1.out]; exact g)]
          simp

set_option maxHeartbeats 1000000 in
/-- **toPile**. -/
theorem toPile_any (t : ByteArray) (m : Int) (w : World) :
    Calls Tq.prog 74 #[.agg #[.string t, .int .i64 m]] w fun e w' => e = .returned (.agg #[.string t, .int .i64 m]) ∧ Below w.heap.size w w' := by
  go_enter Tq.func74, Tq.ntmps74
  go_wp2
  refine bodyPost_ret (results_cell_row rfl _ _ (w.heap.size + 1) 48 #[.string t, .int .i64 m] (0, 0) _ rfl ?_ Tq.underlying48 rfl (by kernel_rfl)) rfl ?_
  · rw [heap_alloc_old _ _ (by simp), heap_alloc2_new]
  · exact ⟨rfl, (((Below.refl _ w).alloc (Nat.le_refl _) _).alloc (by simp) _).alloc (by simp; omega) _⟩

/-- The first k piles, then empty ones. -/
def fillP (ps : List Pl) (len k : Nat) : List Pl := ps.take k ++ List.replicate (len - k) (ByteArray.empty, 0)
theorem fillP_length {ps : List Pl} {len k : Nat} (h : ps.length = len) (hk : k ≤ len) : (fillP ps len k).length = len := by simp [fillP]; omega
theorem fillP_all {ps : List Pl} {len : Nat} (h : ps.length = len) : fillP ps len len = ps := by simp [fillP, ← h]
theorem fillP_step {ps : List Pl} {len k : Nat} (h : ps.length = len) (hk : k < len) : (fillP ps len k).set k (tAt ps k, mAt ps k) = fillP ps len (k + 1) := by
  have e : len - k = (len - (k + 1)) + 1 := by omega
  unfold fillP
  rw [e, List.replicate_succ, take_one (by omega)]
  have hl : (ps.take k).length = k := by simp; omega
  rw [List.set_append_right _ _ (by omega), hl, Nat.sub_self, List.set_cons_zero]
  simp
theorem cells_set2 {ps : List Pl} {k : Nat} {t : ByteArray} {m : Int} (h : k < ps.length) : ((cellsP ps).set (k * 2) (.string t)).set (k * 2 + 1) (.int .i64 m) = cellsP (ps.set k (t, m)) := by
  rw [cellsP_setT ps k t h, cellsP_set _ k m (by simpa using h)]
  congr 1
  rw [List.set_set]
  simp [tAt, h]
theorem cells_made (len : Nat) : (madeCells (Value.agg #[.string ⟨#[]⟩, .int .i64 0]).cells (len * 2)).toList = cellsP (List.replicate len (ByteArray.empty, 0)) := by
  apply List.ext_getElem?
  intro j
  by_cases hj : j < len * 2
  · have h2 : (madeCells (Value.agg #[.string ⟨#[]⟩, .int .i64 0]).cells (len * 2)).toList[j]? = some (#[Value.string ⟨#[]⟩, .int .i64 0][j % 2]!) := by
      rw [Array.getElem?_toList]
      simp [madeCells, hj, Value.cells]
    rw [h2]
    have hi : j / 2 < (List.replicate len ((ByteArray.empty, 0) : Pl)).length := by simp; omega
    rcases Nat.mod_two_eq_zero_or_one j with h | h
    · have := cellsP_text (List.replicate len (ByteArray.empty, 0)) (j / 2) hi
      rw [show j / 2 * 2 = j by omega] at this
      rw [this, h]
      simp at hi
      simp [tAt, hi]
      rfl
    · have := cellsP_many (List.replicate len (ByteArray.empty, 0)) (j / 2) hi
      rw [show j / 2 * 2 + 1 = j by omega] at this
      rw [this, h]
      simp at hi
      simp [mAt, hi]
  · rw [List.getElem?_eq_none (by simp [size_madeCells]; omega), List.getElem?_eq_none (by rw [cellsP_length]; simp; omega)]

set_option maxRecDepth 100000 in
set_option maxHeartbeats 4000000 in
/-- **toPileS**: a new slice with the same piles. -/
theorem toPileS_any (a : Option Addr) (len cap : Nat) (ps : List Pl) (w : World) (h : IsPiles w a len cap ps) :
    Calls Tq.prog 37 #[.slice a len cap] w fun e w' => ∃ g, e = .returned (.slice (some ⟨g, 0, none⟩) len len) ∧ w'.ownsRow w.heap.size 48 2 (.slice (some ⟨g, 0, none⟩) len len) len (cellsP ps) ∧ Below w.heap.size w w' := by
  obtain ⟨i0, hi, hz0, hz1, hz2⟩ := info_parts pile_info
  have HI := Lib.hid h
  have H1 := Lib.hid h.1
  have hm : len ≤ 1048600 := h.2.2.1
  obtain ⟨G, hG⟩ : ∃ G, w.heap.size = G := ⟨_, rfl⟩
  clear h
  go_enter Tq.func37, Tq.ntmps37
  go_wp2_with (at_make; refine wpList_make_full _ rfl _ _ 23 rfl w.heap.size 48 i0 (.agg #[.string ⟨#[]⟩, .int .i64 0]) 2 Tq.underlying23 hi hz0 hz1 .i64 .i64 _ _ len rfl rfl rfl rfl (by rw [hz2]; omega) (by unfold maxLen; omega) (Nat.le_refl _) ?_; intro w1 hown hgrow)
  have hB1 : Below G w w1 := by rw [← hG]; exact (Below.refl _ w).grown hgrow (Nat.le_refl _) (fun k e => by cases e)
  have HO : Hid (w1.ownsRow G 48 2 (.slice (some ⟨G, 0, none⟩) len len) len (cellsP (fillP ps len 0))) := by
    unfold Hid
    have e : (madeCells (Value.agg #[.string ⟨#[]⟩, .int .i64 0]).cells (len * 2)).toList = cellsP (fillP ps len 0) := by rw [cells_made]; simp [fillP]
    rw [← e, ← hG]; exact hown
  clear hown hgrow hi hz0 hz1 hz2
  go_wp2
  go_loopw [4] (fun i wr => ∃ k : Nat, k ≤ len ∧ i = .int .i64 k ∧ Hid (wr.ownsRow G 48 2 (.slice (some ⟨G, 0, none⟩) len len) len (cellsP (fillP ps len k))) ∧ Below G w wr) (fun i _ => len - (intOf i).toNat)
  case atStart => exact ⟨0, Nat.zero_le _, rfl, HO, hB1⟩
  case round =>
    obtain ⟨k, hk, rfl, ho, hB⟩ := hrel
    have hBw : Below w.heap.size w wr := hG.symm ▸ hB
    have hGw : G ≤ wr.heap.size := by have := hBw.size; omega
    by_cases hlt : k < len
    · obtain ⟨b, off, rfl, hb, c0, c1⟩ := (HI.out.below hBw).piles hlt
      obtain ⟨t, ht⟩ : ∃ t, tAt ps k = t := ⟨_, rfl⟩
      obtain ⟨m, hmm⟩ : ∃ m, mAt ps k = m := ⟨_, rfl⟩
      have HST : Hid ((fillP ps len k).set k (t, m) = fillP ps len (k + 1)) := by rw [Hid, ← ht, ← hmm]; exact fillP_step H1.out hlt
      have hkf : k < (fillP ps len k).length := by rw [fillP_length H1.out hk]; exact hlt
      rw [ht] at c0
      rw [hmm] at c1
      clear ht hmm
      go_wp2_with fail
      refine (toPile_any t m _).mono ?_
      rintro e w1 ⟨rfl, hb1⟩
      have O1 := Lib.hid (owns_below ho.out hb1)
      have B1 := Lib.hid (hB.trans (hb1.mono hGw))
      have x0 : w1.cell? ⟨G, k * 2, none⟩ = some (.string (tAt (fillP ps len k) k)) := by rw [O1.out.cellAt (k * 2) (by omega)]; exact cellsP_text _ k hkf
      have x1 : w1.cell? ⟨G, k * 2 + 1, none⟩ = some (.int .i64 (mAt (fillP ps len k) k)) := by rw [O1.out.cellAt (k * 2 + 1) (by omega)]; exact cellsP_many _ k hkf
      have f0 : w1.frozen? ⟨G, k * 2, none⟩ = false := O1.out.frozenAt (k * 2)
      have f1 : w1.frozen? ⟨G, k * 2 + 1, none⟩ = false := O1.out.frozenAt (k * 2 + 1)
      have S1 := Lib.hid (O1.out.stored (k * 2) (.string t))
      have S2 := Lib.hid (S1.out.1.stored (k * 2 + 1) (.int .i64 m))
      have hGw1 : G ≤ w1.heap.size := by have := B1.out.size; omega
      have BB := Lib.hid ((B1.out.grown S1.out.2 hGw1 (fun i ei => by cases ei; exact Nat.le_refl _)).grown S2.out.2 (Nat.le_trans hGw1 S1.out.2.size) (fun i ei => by cases ei; exact Nat.le_refl _))
      clear hb1
      go_wp2
      go_roundw
      case rel => exact ⟨k + 1, by omega, by go_num, by rw [Hid, ← HST.out, ← cells_set2 hkf]; exact S2.out.1, BB.out⟩
      case measure => simp [intOf]; omega
    · obtain rfl : k = len := by omega
      rw [fillP_all H1.out] at ho
      go_wp2
      go_ret
      exact ⟨G, rfl, by rw [hG]; exact ho.out, hBw⟩

set_option maxHeartbeats 2000000 in
/-- **eqPile**. -/
theorem eqPile_any (t1 : ByteArray) (m1 : Int) (t2 : ByteArray) (m2 : Int) (v : Bool) (w : World) (hv : (decide (t1 = t2) && decide (m1 = m2)) = v) :
    Calls Tq.prog 75 #[.agg #[.string t1, .int .i64 m1], .agg #[.string t2, .int .i64 m2]] w fun e w' => e = .returned (.bool v) ∧ Below w.heap.size w w' := by
  have hB : Below w.heap.size w ((w.alloc (.cells #[.string t1, .int .i64 m1] 48)).alloc (.cells #[.string t2, .int .i64 m2] 48)) := ((Below.refl _ w).alloc (Nat.le_refl _) _).alloc (by simp) _
  by_cases ht : t1 = t2
  · subst ht
    by_cases hm : m1 = m2
    · subst hm
      have HV : Hid (v = true) := by rw [Hid, ← hv]; simp
      have e1 : (t1.toList != t1.toList) = false := by simp
      have e2 : (m1 != m1) = false := by simp
      clear hv
      go_enter Tq.func75, Tq.ntmps75
      go_wp2
      go_ret
      exact ⟨ret_bool HV.out.symm, hB⟩
    · have HV : Hid (v = false) := by rw [Hid, ← hv]; simp [hm]
      have e1 : (t1.toList != t1.toList) = false := by simp
      have e2 : (m1 != m2) = true := by simp [hm]
      clear hv
      go_enter Tq.func75, Tq.ntmps75
      go_wp2
      go_ret
      exact ⟨ret_bool HV.out.symm, hB⟩
  · have HV : Hid (v = false) := by rw [Hid, ← hv]; simp [ht]
    have e0 : (t1.toList == t2.toList) = false := by rw [eq_text]; exact decide_eq_false ht
    have e1 : (t1.toList != t2.toList) = true := by rw [bne, e0]; rfl
    clear hv
    go_enter Tq.func75, Tq.ntmps75
    go_wp2
    go_ret
    exact ⟨ret_bool HV.out.symm, hB⟩

set_option maxRecDepth 100000 in
set_option maxHeartbeats 4000000 in
/-- **eqPileS**. -/
theorem eqPileS_as (a1 : Option Addr) (l1 c1 : Nat) (xs : List Pl) (a2 : Option Addr) (l2 c2 : Nat) (ys : List Pl) (v : Bool) (w : World) (h : IsPiles w a1 l1 c1 xs) (h' : IsPiles w a2 l2 c2 ys) (hv : eqP xs ys = v) :
    Calls Tq.prog 40 #[.slice a1 l1 c1, .slice a2 l2 c2] w fun e w' => e = .returned (.bool v) ∧ Below w.heap.size w w' := by
  have HI := Lib.hid h
  have HI' := Lib.hid h'
  have H1 := Lib.hid h.1
  have H1' := Lib.hid h'.1
  have hmax := h.2.2.1
  have HV := Lib.hid hv
  obtain ⟨G, hG⟩ : ∃ G, w.heap.size = G := ⟨_, rfl⟩
  clear h h' hv
  by_cases hll : l1 = l2
  · have hne : ((l1 : Int) != (l2 : Int)) = false := by simp [hll]
    subst hll
    go_enter Tq.func40, Tq.ntmps40
    go_wp2
    go_loopw [5] (fun i wr => ∃ k : Nat, k ≤ l1 ∧ i = .int .i64 k ∧ Hid (xs.take k = ys.take k) ∧ Below G w wr) (fun i _ => l1 - (intOf i).toNat)
    case atStart => exact ⟨0, Nat.zero_le _, rfl, rfl, Below.refl _ _⟩
    case round =>
      obtain ⟨k, hk, rfl, hT, hD⟩ := hrel
      have hBw : Below w.heap.size w wr := hG.symm ▸ hD
      have hGw : G ≤ wr.heap.size := by have := hBw.size; omega
      by_cases hlt : k < l1
      · obtain ⟨b, off, rfl, hb, c0, d0⟩ := (HI.out.below hBw).piles hlt
        obtain ⟨b', off', rfl, hb', c1', d1⟩ := (HI'.out.below hBw).piles hlt
        obtain ⟨t1, ht1⟩ : ∃ t1, tAt xs k = t1 := ⟨_, rfl⟩
        obtain ⟨t2, ht2⟩ : ∃ t2, tAt ys k = t2 := ⟨_, rfl⟩
        obtain ⟨m1, hm1⟩ : ∃ m1, mAt xs k = m1 := ⟨_, rfl⟩
        obtain ⟨m2, hm2⟩ : ∃ m2, mAt ys k = m2 := ⟨_, rfl⟩
        have HP : Hid (¬ (t1 = t2 ∧ m1 = m2) → eqP xs ys = false) := fun hh => takeP_part (by rw [ht1, ht2, hm1, hm2]; exact hh)
        have HS : Hid (t1 = t2 → m1 = m2 → xs.take (k + 1) = ys.take (k + 1)) := fun h1 h2 => takeP_step (by rw [H1.out]; exact hlt) (by rw [H1'.out]; exact hlt) hT.out (by rw [ht1, ht2, h1]) (by rw [hm1, hm2, h2])
        rw [ht1] at c0
        rw [hm1] at d0
        rw [ht2] at c1'
        rw [hm2] at d1
        clear ht1 ht2 hm1 hm2
        have u0 : ∀ u : Beh wr, u.w.cell? ⟨b, off + k * 2, none⟩ = some (.string t1) := Beh.cell c0 hb
        have u1 : ∀ u : Beh wr, u.w.cell? ⟨b, off + k * 2 + 1, none⟩ = some (.int .i64 m1) := Beh.cell d0 hb
        have u2 : ∀ u : Beh wr, u.w.cell? ⟨b', off' + k * 2, none⟩ = some (.string t2) := Beh.cell c1' hb'
        have u3 : ∀ u : Beh wr, u.w.cell? ⟨b', off' + k * 2 + 1, none⟩ = some (.int .i64 m2) := Beh.cell d1 hb'
        obtain ⟨q, hq⟩ : ∃ q, (decide (t1 = t2) && decide (m1 = m2)) = q := ⟨_, rfl⟩
        have HQ := Lib.hid hq
        cases q
        · have HF : Hid (v = false) := by
            rw [Hid, ← HV.out]
            refine HP.out fun hh => ?_
            rw [decide_eq_true hh.1, decide_eq_true hh.2] at hq
            cases hq
          clear HS HP hq
          go_wp2_with fail
          refine wp_region_below (by kernel_rfl) (by kernel_rfl) ?_
          repeat (go_big_quiet_step ((go_at_call 75; exact Calls.beh (eqPile_any t1 m1 t2 m2 false _ HQ.out))))
          refine wpQuiet_nil ?_
          rintro _ ⟨⟨w1, hb1⟩, rfl⟩
          have hB1 := hD.trans (hb1.mono hGw)
          go_wp2
          go_ret
          exact ⟨ret_bool HF.out.symm, hG.symm ▸ hB1⟩
        · have HSS : Hid (xs.take (k + 1) = ys.take (k + 1)) := by
            simp only [Bool.and_eq_true, decide_eq_true_iff] at hq
            exact HS.out hq.1 hq.2
          clear HS HP hq
          go_wp2_with fail
          refine wp_region_below (by kernel_rfl) (by kernel_rfl) ?_
          repeat (go_big_quiet_step ((go_at_call 75; exact Calls.beh (eqPile_any t1 m1 t2 m2 true _ HQ.out))))
          refine wpQuiet_nil ?_
          rintro _ ⟨⟨w1, hb1⟩, rfl⟩
          have hB1 := hD.trans (hb1.mono hGw)
          go_wp2
          go_roundw
          case rel => exact ⟨k + 1, by omega, by go_num, HSS, hB1⟩
          case measure => simp [intOf]; omega
      · obtain rfl : k = l1 := by omega
        have HF : Hid (v = true) := by
          have := hT.out
          rw [List.take_of_length_le (by rw [H1.out]; omega), List.take_of_length_le (by rw [H1'.out]; omega)] at this
          rw [Hid, ← HV.out, eqP, this]; simp
        go_wp2
        go_ret
        exact ⟨ret_bool HF.out.symm, hBw⟩
  · have hne : ((l1 : Int) != (l2 : Int)) = true := by simp; omega
    have HF : Hid (v = false) := by
      rw [Hid, ← HV.out]
      simp only [eqP, decide_eq_false_iff_not]
      intro e
      have h1 := H1.out
      have h2 := H1'.out
      rw [e] at h1
      omega
    go_enter Tq.func40, Tq.ntmps40
    go_wp2
    go_ret
    exact ⟨ret_bool HF.out.symm, Below.refl _ _⟩

end Go.Proofs.Ytgkakgibgfehaaa

namespace Go.Proofs.Ytgkakgibgfehaaa
open Go.RowKit Go.ChangeShapes Go.WideShapes Go.Deep

/-- A slice of piles that came in: it is nil, or it leads to a row of piles. -/
def IsPRow (w : World) (a : Option Addr) (len cap : Nat) (ps : List Pl) : Prop :=
  ps.length = len ∧ Held ps ∧ len ≤ maxLen ∧ ((a = none ∧ len = 0 ∧ cap = 0) ∨ ∃ x, a = some x ∧ len ≤ cap ∧ ∀ i, i < len → w.cell? (x.add (i * 2)) = some (.string (tAt ps i)) ∧ w.cell? (x.add (i * 2 + 1)) = some (.int .i64 (mAt ps i)))
theorem IsPRow.piles {w : World} {a : Option Addr} {len cap : Nat} {ps : List Pl} (h : IsPRow w a len cap ps) (hl : len ≤ 1048576) : IsPiles w a len cap ps := by
  obtain ⟨h1, _, _, h⟩ := h
  rcases h with ⟨rfl, rfl, rfl⟩ | ⟨⟨b, off, spot⟩, rfl, hc, h4⟩
  · exact ⟨h1, Nat.le_refl _, by omega, fun h => by omega⟩
  · refine ⟨h1, hc, by omega, fun hp => ?_⟩
    have h0 := (h4 0 hp).1
    have hs : spot = none := by simpa [Addr.add] using World.cell?_spot h0
    subst hs
    refine ⟨b, off, rfl, World.block_lt_of_cell? w _ h0, fun j hj => ?_⟩
    have := h4 j hj
    rw [add_spot, add_spot] at this
    exact this
set_option maxHeartbeats 1000000 in
/-- **szPileS**, of a longer slice. -/
theorem szPileS_long (a : Option Addr) (len cap : Nat) (L : Int) (w : World) (hl : 1048576 < len) (hm : len ≤ maxLen) (hL : 0 ≤ L ∧ L ≤ 1048576) :
    Calls Tq.prog 36 #[.slice a len cap, .int .i64 L] w fun e w' => e = .returned (.int .i64 (-1)) ∧ w = w' := by
  have hsz : (len : Int) ≤ 9223372036854775807 := by unfold maxLen at hm; omega
  have hw : IntKind.i64.wrap (L - (len : Int)) = L - (len : Int) := IntWalk.i64_in _ (by omega)
  have hd : decide (L - (len : Int) < 0) = true := decide_eq_true (by omega)
  go_enter Tq.func36, Tq.ntmps36
  go_wp2
  go_ret
  exact ⟨rfl, rfl⟩

end Go.Proofs.Ytgkakgibgfehaaa

namespace Go.Proofs.Ytgkakgibgfehaaa

theorem wsum_nonneg {f : ByteArray → Int} {ps : List Pl} (h : ∀ p ∈ ps, 0 ≤ f p.1) (hp : ∀ p ∈ ps, 1 ≤ p.2) : 0 ≤ wsum f ps := by
  have := wsum_le (f := fun _ => 0) h hp
  rwa [wsum_zero] at this
end Go.Proofs.Ytgkakgibgfehaaa

namespace Go.Proofs.Ytgkakgibgfehaaa

theorem counts_low {ps : List Pl} {L : List Bool} {k : Nat} (hk : k < L.length) (hp : ∀ p ∈ ps, 1 ≤ p.2) : 0 ≤ (countsL ps L)[k]?.getD 0 := by
  rw [countsL_at _ _ hk]
  exact wsum_nonneg (fun p _ => oneF_low _ _ _) hp
end Go.Proofs.Ytgkakgibgfehaaa

namespace Go.Proofs.Ytgkakgibgfehaaa

/-- Lots are valid. -/
def lotsB (zs : List Int) : Bool := validB zs (zs.length : Int)
theorem lotsB_len {zs : List Int} (h : lotsB zs = true) : 1 ≤ zs.length ∧ zs.length ≤ 5 := by have := vB_mem h; omega
/-- The first of the lots for whom 'some' is true, or -1. -/
def pickL : List Int → List Bool → Int
  | [], _ => -1
  | z :: t, L => if L[z.toNat]?.getD false = true then z else pickL t L

end Go.Proofs.Ytgkakgibgfehaaa

namespace Go.Proofs.Ytgkakgibgfehaaa

/-- The greatest of the first k counts of some, or -1. -/
def bestS (c : List Int) (s : List Bool) (k : Nat) : Int := (List.range k).foldl (fun (b : Int) (i : Nat) => if s[i]?.getD false = true then max b (c[i]?.getD 0) else b) (-1)
theorem bestS_zero (c : List Int) (s : List Bool) : bestS c s 0 = -1 := rfl
theorem bestS_succ (c : List Int) (s : List Bool) (k : Nat) : bestS c s (k + 1) = if s[k]?.getD false = true then max (bestS c s k) (c[k]?.getD 0) else bestS c s k := by
  simp [bestS, List.range_succ]
theorem bestS_ge {c : List Int} {s : List Bool} {k i : Nat} (h : i < k) (hs : s[i]?.getD false = true) : c[i]?.getD 0 ≤ bestS c s k := by
  induction k with
  | zero => omega
  | succ k ih =>
    rw [bestS_succ]
    by_cases e : i = k
    · subst e; rw [if_pos hs]; omega
    · have := ih (by omega)
      split <;> omega
theorem bestS_hit (c : List Int) (s : List Bool) (k : Nat) : bestS c s k = -1 ∨ ∃ i, i < k ∧ s[i]?.getD false = true ∧ c[i]?.getD 0 = bestS c s k := by
  induction k with
  | zero => exact .inl rfl
  | succ k ih =>
    rw [bestS_succ]
    by_cases hs : s[k]?.getD false = true
    · rw [if_pos hs]
      rcases ih with ih | ⟨i, hi, h1, h2⟩
      · by_cases g : c[k]?.getD 0 ≤ -1
        · left; omega
        · right; exact ⟨k, by omega, hs, by omega⟩
      · by_cases g : c[k]?.getD 0 ≤ bestS c s k
        · right; exact ⟨i, by omega, h1, by omega⟩
        · right; exact ⟨k, by omega, hs, by omega⟩
    · rw [if_neg hs]
      rcases ih with ih | ⟨i, hi, h1, h2⟩
      · exact .inl ih
      · exact .inr ⟨i, by omega, h1, h2⟩
/-- Who has the greatest of some counts. -/
def mostL (c : List Int) (s : List Bool) : List Bool := (List.range c.length).map fun i => s[i]?.getD false && (c[i]?.getD 0 == bestS c s c.length)
theorem mostL_at {c : List Int} {s : List Bool} {i : Nat} (h : i < c.length) : (mostL c s)[i]?.getD false = true ↔ s[i]?.getD false = true ∧ c[i]?.getD 0 = bestS c s c.length := by
  simp [mostL, h]

/-- The first one of some in an order. -/
theorem pickL_spec {l : List Int} {L : List Bool} (h : ∃ z ∈ l, L[z.toNat]?.getD false = true) : pickL l L ∈ l ∧ L[(pickL l L).toNat]?.getD false = true ∧ ∀ u ∈ l, L[u.toNat]?.getD false = true → l.idxOf (pickL l L) ≤ l.idxOf u := by
  induction l with
  | nil => obtain ⟨z, hz, _⟩ := h; cases hz
  | cons a t ih =>
    unfold pickL
    by_cases ha : L[a.toNat]?.getD false = true
    · rw [if_pos ha]
      exact ⟨by simp, ha, fun u _ _ => by simp [List.idxOf_cons]⟩
    · rw [if_neg ha]
      obtain ⟨z, hz, hzL⟩ := h
      have hz' : z ∈ t := by
        rcases List.mem_cons.1 hz with e | e
        · subst e; exact absurd hzL ha
        · exact e
      obtain ⟨i1, i2, i3⟩ := ih ⟨z, hz', hzL⟩
      refine ⟨by simp [i1], i2, fun u hu huL => ?_⟩
      have hau : ¬ a = u := fun e => ha (by rw [e]; exact huL)
      have hap : ¬ a = pickL t L := fun e => ha (by rw [e]; exact i2)
      have hu' : u ∈ t := by
        rcases List.mem_cons.1 hu with e | e
        · exact absurd e.symm hau
        · exact e
      have := i3 u hu' huL
      rw [List.idxOf_cons, List.idxOf_cons]
      simp only [beq_eq_false_iff_ne.2 hau, beq_eq_false_iff_ne.2 hap, cond_false]
      omega

/-- **w has the greatest of some counts**, and comes first in the lots among those who have as many. -/
def IsWin (c : List Int) (s : List Bool) (lots : List Int) (w : Int) : Prop :=
  w ∈ lots ∧ s[w.toNat]?.getD false = true ∧ ∀ i ∈ lots, s[i.toNat]?.getD false = true → c[i.toNat]?.getD 0 < c[w.toNat]?.getD 0 ∨ (c[i.toNat]?.getD 0 = c[w.toNat]?.getD 0 ∧ lots.idxOf w ≤ lots.idxOf i)
theorem lots_mem {lots : List Int} (h : lotsB lots = true) {i : Nat} (hi : i < lots.length) : (i : Int) ∈ lots := by
  have hm := vB_mem h
  have hd := vB_nodup h
  by_cases e : (i : Int) ∈ lots
  · exact e
  · have hnd : ((i : Int) :: lots).Nodup := List.nodup_cons.2 ⟨e, hd⟩
    have := few_of lots.length ((i : Int) :: lots) hnd (fun z hz => by
      rcases List.mem_cons.1 hz with g | g
      · subst g; omega
      · exact hm.2.2 z g)
    simp at this
    omega
/-- **The pick is the one.** -/
theorem win_pick {c : List Int} {s : List Bool} {lots : List Int} (hl : lotsB lots = true) (hc : c.length = lots.length) (h0 : ∀ i, i < c.length → 0 ≤ c[i]?.getD 0) (hs : ∃ i, i < c.length ∧ s[i]?.getD false = true) : IsWin c s lots (pickL lots (mostL c s)) := by
  have hm := vB_mem hl
  have hN : ∀ z ∈ lots, z.toNat < c.length := fun z hz => by have := hm.2.2 z hz; omega
  obtain ⟨j, hj, hsj⟩ := hs
  have hb := bestS_hit c s c.length
  have hge := bestS_ge (c := c) hj hsj
  have h0j := h0 j hj
  rcases hb with hb | ⟨i, hi, h1, h2⟩
  · omega
  · obtain ⟨p1, p2, p3⟩ := pickL_spec (l := lots) (L := mostL c s) ⟨(i : Int), lots_mem hl (by omega), by rw [Int.toNat_natCast, mostL_at hi]; exact ⟨h1, h2⟩⟩
    have hp := (mostL_at (hN _ p1)).1 p2
    refine ⟨p1, hp.1, fun u hu hsu => ?_⟩
    have hg := bestS_ge (c := c) (hN u hu) hsu
    by_cases e : c[u.toNat]?.getD 0 = bestS c s c.length
    · exact .inr ⟨by omega, p3 u hu ((mostL_at (hN u hu)).2 ⟨hsu, e⟩)⟩
    · exact .inl (by omega)

/-! ### Two candidates exchanged. -/
end Go.Proofs.Ytgkakgibgfehaaa

namespace Go.Proofs.Ytgkakgibgfehaaa

/-- Nobody has left. -/
def noneL (n : Nat) : List Bool := List.replicate n false
def allL (n : Nat) : List Bool := List.replicate n true
theorem allL_at {n k : Nat} (h : k < n) : (allL n)[k]?.getD false = true := by
  unfold allL; rw [List.getElem?_replicate, if_pos h]; rfl
theorem noneL_length (n : Nat) : (noneL n).length = n := by simp [noneL]
def plurC (ps : List Pl) (n : Nat) : List Int := countsL ps (noneL n)
theorem plurC_length (ps : List Pl) (n : Nat) : (plurC ps n).length = n := by rw [plurC, countsL_length, noneL_length]
theorem plurC_low {ps : List Pl} (hp : ∀ p ∈ ps, 1 ≤ p.2) {n k : Nat} (hk : k < n) : 0 ≤ (plurC ps n)[k]?.getD 0 := counts_low (by rw [noneL_length]; exact hk) hp
/-- The winner. -/
def winL (ps : List Pl) (lots : List Int) : Int := pickL lots (mostL (plurC ps lots.length) (allL lots.length))
theorem win_is {ps : List Pl} {lots : List Int} (hl : lotsB lots = true) (hp : ∀ p ∈ ps, 1 ≤ p.2) : IsWin (plurC ps lots.length) (allL lots.length) lots (winL ps lots) := by
  have hn := lotsB_len hl
  refine win_pick hl (plurC_length _ _) (fun i hi => ?_) ⟨0, ?_, allL_at (by omega)⟩
  · rw [plurC_length] at hi
    exact plurC_low hp hi
  · rw [plurC_length]; omega
theorem winL_range {ps : List Pl} {lots : List Int} (hl : lotsB lots = true) (hp : ∀ p ∈ ps, 1 ≤ p.2) : 0 ≤ winL ps lots ∧ winL ps lots < (lots.length : Int) := (vB_mem hl).2.2 _ (win_is hl hp).1

/-- The greatest count of the first k others, or 0. -/
def nextTo (c : List Int) (w : Int) (k : Nat) : Int := (List.range k).foldl (fun (b : Int) (i : Nat) => if (i : Int) ≠ w then max b (c[i]?.getD 0) else b) 0
theorem nextTo_succ (c : List Int) (w : Int) (k : Nat) : nextTo c w (k + 1) = if (k : Int) ≠ w then max (nextTo c w k) (c[k]?.getD 0) else nextTo c w k := by
  simp [nextTo, List.range_succ]
theorem nextTo_low (c : List Int) (w : Int) (k : Nat) : 0 ≤ nextTo c w k := by
  induction k with
  | zero => exact Int.le_refl _
  | succ k ih => rw [nextTo_succ]; split <;> omega
/-- The margin. -/
def marginL (ps : List Pl) (lots : List Int) : Int := (plurC ps lots.length)[(winL ps lots).toNat]?.getD 0 - nextTo (plurC ps lots.length) (winL ps lots) lots.length
end Go.Proofs.Ytgkakgibgfehaaa

namespace Go.Proofs.Ytgkakgibgfehaaa

/-- The greatest of the first k + 1 counts. -/
def maxTo (c : List Int) : Nat → Int
  | 0 => c[0]?.getD 0
  | k + 1 => max (maxTo c k) (c[k + 1]?.getD 0)
theorem maxTo_zero (c : List Int) : maxTo c 0 = c[0]?.getD 0 := rfl
theorem maxTo_succ (c : List Int) (k : Nat) : maxTo c (k + 1) = max (maxTo c k) (c[k + 1]?.getD 0) := rfl
theorem best_all {c : List Int} {n : Nat} (h0 : ∀ i, i < n → 0 ≤ c[i]?.getD 0) : ∀ k, k < n → bestS c (allL n) (k + 1) = maxTo c k
  | 0, h => by
    have := h0 0 h
    rw [bestS_succ, bestS_zero, if_pos (allL_at h), maxTo_zero]; omega
  | k + 1, h => by
    have ih := best_all h0 k (by omega)
    rw [bestS_succ, ih, if_pos (allL_at h), maxTo_succ]
/-- Who has as many. -/
def eqTo (c : List Int) (m : Int) (n : Nat) : List Bool := (List.range n).map fun i => c[i]?.getD 0 == m
theorem eqTo_length (c : List Int) (m : Int) (n : Nat) : (eqTo c m n).length = n := by simp [eqTo]
theorem most_great {c : List Int} {n : Nat} (hc : c.length = n) (hn : 1 ≤ n) (h0 : ∀ i, i < n → 0 ≤ c[i]?.getD 0) : mostL c (allL n) = eqTo c (maxTo c (n - 1)) n := by
  unfold mostL eqTo
  rw [hc]
  have := best_all h0 (n - 1) (by omega)
  rw [show n - 1 + 1 = n by omega] at this
  rw [this]
  refine List.map_congr_left (fun i hi => ?_)
  rw [allL_at (List.mem_range.1 hi)]; rfl
end Go.Proofs.Ytgkakgibgfehaaa

namespace Go.Proofs.Ytgkakgibgfehaaa

/-- What LotsFirst returns. -/
def pickB (zs : List Int) (L : List Bool) : Int := if lotsB zs = true ∧ L.length = zs.length then pickL zs L else -1
theorem lotsB_mem {zs : List Int} (h : lotsB zs = true) : ∀ z ∈ zs, 0 ≤ z ∧ z < (zs.length : Int) := (vB_mem h).2.2
end Go.Proofs.Ytgkakgibgfehaaa

namespace Go.Proofs.Ytgkakgibgfehaaa
open Go.RowKit

/-- **impl.LotsValid**. -/
theorem implLots_any (a : Option Addr) (len cap : Nat) (zs : List Int) (w : World) (h : IsInts w a len cap zs) :
    Calls Tq.prog 65 #[.slice a len cap] w fun e w' => e = .returned (.bool (lotsB zs)) ∧ Below w.heap.size w w' := by
  have HV : Hid (validB zs (len : Int) = lotsB zs) := by unfold Hid lotsB; rw [h.1]
  have H := Lib.hid h; clear h
  go_enter Tq.func65, Tq.ntmps65
  go_wp2_with fail
  refine (implValid_any _ _ _ zs _ _ H.out).mono ?_
  rintro e w1 ⟨rfl, hb⟩
  go_wp2
  go_ret
  exact ⟨ret_bool HV.out, hb⟩

set_option maxHeartbeats 1000000 in
/-- **impl.LotsFirst**. -/
theorem implPick_any (a : Option Addr) (len cap : Nat) (zs : List Int) (a' : Option Addr) (len' cap' : Nat) (L : List Bool) (w : World) (h : IsInts w a len cap zs) (h' : IsBools w a' len' cap' L) :
    Calls Tq.prog 96 #[.slice a len cap, .slice a' len' cap'] w fun e w' => e = .returned (.int .i64 (pickB zs L)) ∧ Below w.heap.size w w' := by
  have hE : Hid (pickB zs L = if lotsB zs = true ∧ len' = len then pickL zs L else -1) := by unfold Hid pickB; rw [h.1, h'.1]
  have hm := h'.2.2.1
  have hm' := h.2.2.1
  have HL := Lib.hid h.1
  have H := Lib.hid h; clear h
  have H' := Lib.hid h'; clear h'
  cases hv : lotsB zs
  · have HV := Lib.hid hv
    go_enter Tq.func96, Tq.ntmps96
    go_wp2_with fail
    refine (implLots_any _ _ _ zs _ H.out).mono ?_
    rintro e w1 ⟨he, hb⟩
    rw [HV.out] at he
    subst he
    go_wp2
    go_ret
    refine ⟨ret_int ?_, hb⟩
    rw [hE.out, HV.out]; rfl
  · have HV := Lib.hid hv
    by_cases hll : len' = len
    · have HR : Hid (∀ z ∈ zs, 0 ≤ z ∧ z < (len' : Int)) := by intro z hz; have := lotsB_mem HV.out z hz; rw [HL.out] at this; omega
      subst hll
      have hne : ((len' : Int) != (len' : Int)) = false := by simp
      go_enter Tq.func96, Tq.ntmps96
      go_wp2_with fail
      refine (implLots_any _ _ _ zs _ H.out).mono ?_
      rintro e w1 ⟨he, hb⟩
      rw [HV.out] at he
      subst he
      have HB := Lib.hid hb
      obtain ⟨-, -, -, h4⟩ := H.out.below hb
      obtain ⟨-, -, -, g4⟩ := H'.out.below hb
      have H4 := Lib.hid h4; clear h4
      have G4 := Lib.hid g4; clear g4 hb
      go_wp2
      go_loop [19] (fun i => ∃ k : Nat, k ≤ len' ∧ i = .int .i64 k ∧ Hid (pickL zs L = pickL (zs.drop k) L)) (fun i => len' - (intOf i).toNat)
      case atStart => exact ⟨0, Nat.zero_le _, rfl, by simp [Hid]⟩
      case round =>
        obtain ⟨k, hk, rfl, hp⟩ := hrel
        by_cases hlt : k < len'
        · obtain ⟨b, o, rfl, hb, hc⟩ := H4.out (by omega)
          have hz := hc k hlt
          have hkz : k < zs.length := by rw [HL.out]; exact hlt
          have hr := HR.out (zs[k]?.getD 0) (by simp [hkz])
          obtain ⟨c, hcz⟩ := Int.eq_ofNat_of_zero_le hr.1
          obtain ⟨lb, lo, rfl, hlb, hlc⟩ := G4.out (by omega)
          have hcl : c < len' := by omega
          have hcell := hlc c hcl
          rw [hcz] at hz
          have HD := drop_cons zs k hkz
          rw [hcz] at HD
          have HD := Lib.hid HD
          clear hc hlc hr hcz hkz
          cases hLc : L[c]?.getD false
          · have HLc := Lib.hid hLc
            rw [hLc] at hcell
            clear hLc
            go_wp2
            go_round
            case rel =>
              refine ⟨k + 1, by omega, by go_num, ?_⟩
              unfold Hid
              rw [hp.out, HD.out, pickL, if_neg (by rw [Int.toNat_natCast, HLc.out]; simp)]
            case measure => simp [intOf]; omega
          · have HLc := Lib.hid hLc
            rw [hLc] at hcell
            clear hLc
            go_wp2
            go_ret
            refine ⟨ret_int ?_, HB.out⟩
            rw [hE.out, if_pos (by simp [HV.out]), hp.out, HD.out, pickL, if_pos (by rw [Int.toNat_natCast]; exact HLc.out)]
        · obtain rfl : k = len' := by omega
          go_wp2
          go_ret
          refine ⟨ret_int ?_, HB.out⟩
          rw [hE.out, if_pos (by simp [HV.out]), hp.out, List.drop_of_length_le (by rw [HL.out]; omega)]; rfl
    · have hll2 : ¬ (len' : Int) = (len : Int) := by omega
      have hll3 : ((len' : Int) != (len : Int)) = true := by simpa using hll2
      go_enter Tq.func96, Tq.ntmps96
      go_wp2_with fail
      refine (implLots_any _ _ _ zs _ H.out).mono ?_
      rintro e w1 ⟨he, hb⟩
      rw [HV.out] at he
      subst he
      go_wp2
      go_ret
      refine ⟨ret_int ?_, hb⟩
      rw [hE.out, if_neg (fun e => hll e.2)]

end Go.Proofs.Ytgkakgibgfehaaa

namespace Go.Proofs.Ytgkakgibgfehaaa
open Go.RowKit

attribute [local go_sem] Oper.semAt_some

theorem bool_info9 : (Tq.prog.info? 4).map (fun i => (i.zero, i.size, i.bytes)) = some (some (.bool false), 1, 1) := by kernel_rfl

set_option maxRecDepth 100000 in
set_option maxHeartbeats 2000000 in
/-- **slices.Max**. -/
theorem slicesMax_as (a : Option Addr) (len cap : Nat) (zs : List Int) (w : World) (h : IsInts w a len cap zs) (hp : 0 < len) (m : Int) (hm : maxTo zs (len - 1) = m) :
    Calls Tq.prog 66 #[.slice a len cap] w fun e w' => e = .returned (.int .i64 m) ∧ w = w' := by
  obtain ⟨h1, h2, h3, h4⟩ := h
  obtain ⟨b, off, rfl, hb, hc⟩ := h4 hp
  have HC := Lib.hid hc
  have HM := Lib.hid hm
  have c0 := hc 0 hp
  rw [Nat.add_zero] at c0
  obtain ⟨z0, hz0⟩ : ∃ z0, zs[0]?.getD 0 = z0 := ⟨_, rfl⟩
  rw [hz0] at c0
  have HZ0 : Hid (maxTo zs 0 = z0) := hz0
  have hlt1 : decide ((len : Int) < 1) = false := decide_eq_false (by omega)
  have hlt2 : decide (len = 0) = false := decide_eq_false (by omega)
  have hlt3 : ¬ len = 0 := by omega
  have hpi : (0 : Int) < (len : Int) := by omega
  clear hc h4 hm hz0 h1
  go_enter Tq.func66, Tq.ntmps66
  go_wp2
  go_loop [3, 4] (fun mv iv => ∃ (i : Nat) (x : Int), 1 ≤ i ∧ i ≤ len ∧ iv = .int .i64 (i : Int) ∧ mv = .int .i64 x ∧ Hid (maxTo zs (i - 1) = x)) (fun _ iv => len - (intOf iv).toNat)
  case atStart => exact ⟨1, z0, Nat.le_refl _, hp, rfl, rfl, HZ0⟩
  case round =>
    clear HZ0 c0
    obtain ⟨i, x, hi1, hil, rfl, rfl, hx⟩ := hrel
    by_cases hlt : i < len
    · have ci := HC.out i hlt
      obtain ⟨z, hz⟩ : ∃ z, zs[i]?.getD 0 = z := ⟨_, rfl⟩
      rw [hz] at ci
      have HX : Hid (maxTo zs i = max x z) := by
        obtain ⟨k, rfl⟩ : ∃ k, i = k + 1 := ⟨i - 1, by omega⟩
        have := hx.out
        rw [Nat.add_sub_cancel] at this
        rw [Hid, maxTo_succ, this, hz]
      clear hz
      by_cases hxz : x < z
      · have HX2 : Hid (maxTo zs (i + 1 - 1) = z) := by rw [Nat.add_sub_cancel, Hid, HX.out]; omega
        go_wp2
        go_round
        case rel => exact ⟨i + 1, z, by omega, by omega, by go_num, by first | rfl | (congr 1; omega), HX2⟩
        case measure => simp [intOf]; omega
      · have HX2 : Hid (maxTo zs (i + 1 - 1) = x) := by rw [Nat.add_sub_cancel, Hid, HX.out]; omega
        go_wp2
        go_round
        case rel => exact ⟨i + 1, x, by omega, by omega, by go_num, by first | rfl | (congr 1; omega), HX2⟩
        case measure => simp [intOf]; omega
    · obtain rfl : i = len := by omega
      go_wp2
      go_ret
      exact ⟨ret_int (by rw [← HM.out, hx.out]), rfl⟩

theorem eqTo_next (c : List Int) (m : Int) (n k : Nat) : ((List.range n).map fun i => Value.bool (decide (i < k) && (c[i]?.getD 0 == m))).set k (.bool (c[k]?.getD 0 == m)) = (List.range n).map fun i => Value.bool (decide (i < k + 1) && (c[i]?.getD 0 == m)) := by
  refine List.ext_getElem (by simp) (fun i h1 h2 => ?_)
  by_cases e : k = i
  · subst e; simp
  · rw [List.getElem_set_ne e]
    simp only [List.getElem_map, List.getElem_range]
    by_cases g : i < k
    · rw [decide_eq_true g, decide_eq_true (by omega : i < k + 1)]
    · rw [decide_eq_false g, decide_eq_false (by omega : ¬ i < k + 1)]
theorem falses_made (n : Nat) (f : Nat → Bool) : (madeCells (Value.bool false).cells (n * 1)).toList = (List.range n).map fun i => Value.bool (decide (i < 0) && f i) := by
  rw [show (Value.bool false).cells = #[.bool false] from rfl, toList_madeCells_one, Nat.mul_one]
  refine List.ext_getElem (by simp) (fun i h1 h2 => ?_)
  simp
theorem bools_owned {w : World} {base g n c : Nat} {f : Nat → Bool} (h : w.ownsRow base 4 1 (.slice (some ⟨g, 0, none⟩) n c) n ((List.range n).map fun i => Value.bool (f i))) (hn : n ≤ 1048600) (hc : n ≤ c) : IsBools w (some ⟨g, 0, none⟩) n c ((List.range n).map f) := by
  refine ⟨by simp, hc, hn, fun hp => ⟨g, 0, rfl, (h.lt g rfl).2, fun j hj => ?_⟩⟩
  rw [Nat.zero_add, h.cellAt j (by omega)]
  simp [hj]

set_option maxRecDepth 100000 in
set_option maxHeartbeats 2000000 in
/-- **greatestCount**. -/
theorem great_as (a : Option Addr) (n cap : Nat) (cs : List Int) (a' : Option Addr) (cap' : Nat) (lots : List Int) (w : World) (h : IsInts w a n cap cs) (h' : IsInts w a' n cap' lots) (hl : lotsB lots = true) (h0 : ∀ i, i < n → 0 ≤ cs[i]?.getD 0) (r : Int) (hr : pickL lots (mostL cs (allL n)) = r) :
    Calls Tq.prog 58 #[.slice a n cap, .slice a' n cap'] w fun e w' => e = .returned (.int .i64 r) ∧ Below w.heap.size w w' := by
  obtain ⟨i0, hi, hz0, hz1, hz2⟩ := info_parts bool_info9
  have hlen := h'.1
  have hn := lotsB_len hl
  rw [hlen] at hn
  have hcs := h.1
  obtain ⟨m, hm⟩ : ∃ m, maxTo cs (n - 1) = m := ⟨_, rfl⟩
  have HR : Hid (pickB lots (eqTo cs m n) = r) := by
    rw [Hid, pickB, if_pos ⟨hl, by rw [eqTo_length, hlen]⟩, ← hr, most_great hcs hn.1 h0, hm]
  have H := Lib.hid h
  have H' := Lib.hid h'
  have HM := Lib.hid hm
  clear h h' hr hm h0 hcs hlen
  go_enter Tq.func58, Tq.ntmps58
  go_wp2_with fail
  refine (slicesMax_as _ _ _ cs _ H.out (by omega) m HM.out).mono ?_
  rintro e w1 ⟨rfl, rfl⟩
  obtain ⟨g, hg⟩ : ∃ g, w.heap.size = g := ⟨_, rfl⟩
  go_wp2_with (at_make; refine wpList_make_full _ rfl _ _ 24 rfl w.heap.size 4 i0 (.bool false) 1 Tq.underlying24 hi hz0 hz1 .i64 .i64 _ _ n rfl rfl rfl rfl (by rw [hz2]; omega) (by unfold maxLen; omega) (Nat.le_refl _) ?_; intro w2 hown hgrow)
  have hb2 : Below g w w2 := hg ▸ (Below.refl _ w).grown hgrow (Nat.le_refl _) (fun k e => by cases e)
  rw [hg, falses_made n (fun i => cs[i]?.getD 0 == m)] at hown
  have O2 := Lib.hid hown
  have HG := Lib.hid hg
  clear hown hgrow hg hi hz0 hz1 hz2
  go_wp2
  go_loopw [7, 8, 16] (fun _ _ iv wr => ∃ i : Nat, i ≤ n ∧ iv = .int .i64 (i : Int) ∧ Hid (wr.ownsRow g 4 1 (.slice (some ⟨g, 0, none⟩) n n) n ((List.range n).map fun k => Value.bool (decide (k < i) && (cs[k]?.getD 0 == m)))) ∧ Below g w wr) (fun _ _ iv _ => n - (intOf iv).toNat)
  case atStart => exact ⟨0, Nat.zero_le _, rfl, O2, hb2⟩
  case round =>
    clear O2 hb2
    obtain ⟨i, hin, rfl, hO, hB⟩ := hrel
    have hBw : Below w.heap.size w wr := HG.out.symm ▸ hB
    by_cases hlt : i < n
    · obtain ⟨b, off, rfl, hb, hc⟩ := (H.out.below hBw).2.2.2 (by omega)
      have ci := hc i hlt
      obtain ⟨z, hz⟩ : ∃ z, cs[i]?.getD 0 = z := ⟨_, rfl⟩
      obtain ⟨v, hv⟩ : ∃ v, (z == m) = v := ⟨_, rfl⟩
      rw [hz] at ci
      have hst := (hO.out.stored i (.bool v)).1
      have O3 : Hid ((wr.setCell ⟨g, i, none⟩ (.bool v)).ownsRow g 4 1 (.slice (some ⟨g, 0, none⟩) n n) n ((List.range n).map fun k => Value.bool (decide (k < i + 1) && (cs[k]?.getD 0 == m)))) := by
        rw [Hid, ← eqTo_next cs m n i, hz, hv]; exact hst
      have hgc : wr.cell? ⟨g, i, none⟩ = some (.bool (decide (i < i) && (z == m))) := by
        rw [hO.out.cellAt i (by omega)]; simp [hlt, hz]
      have hfz := hO.out.frozenAt i
      have B3 : Below g w (wr.setCell ⟨g, i, none⟩ (.bool v)) := hB.setCell (p := ⟨g, i, none⟩) (Nat.le_refl _) _
      clear hc hst hO hB hBw hz
      go_wp2
      go_roundw
      case rel => exact ⟨i + 1, by omega, by go_num, O3, B3⟩
      case measure => simp [intOf]; omega
    · obtain rfl : i = n := by omega
      have J : Hid (IsBools wr (some ⟨g, 0, none⟩) i i (eqTo cs m i)) := by
        have h1 := bools_owned hO.out (by omega) (Nat.le_refl _)
        have h2 : ((List.range i).map fun k => decide (k < i) && (cs[k]?.getD 0 == m)) = eqTo cs m i := by
          unfold eqTo
          refine List.map_congr_left (fun k hk => ?_)
          rw [decide_eq_true (List.mem_range.1 hk), Bool.true_and]
        rw [h2] at h1; exact h1
      have K := Lib.hid (H'.out.below hBw)
      clear hO
      go_wp2_with fail
      refine (implPick_any _ _ _ lots _ _ _ (eqTo cs m i) _ K.out J.out).mono ?_
      rw [HR.out]
      rintro e w5 ⟨rfl, hb5⟩
      go_wp2
      go_ret
      exact ⟨rfl, hBw.trans (hb5.mono hBw.size)⟩

end Go.Proofs.Ytgkakgibgfehaaa

namespace Go.Proofs.Ytgkakgibgfehaaa
open Go.RowKit

theorem lotsB_eq {zs : List Int} {len : Nat} (h : zs.length = len) (hl : len ≤ 1048600) : lotsB zs = (goodTo zs ((len : Int) - 1) len && inB (len : Int) 1 5) := by
  unfold lotsB validB
  rw [h, IntWalk.wrap64_in _ ⟨by omega, by omega⟩]

set_option maxHeartbeats 400000 in
/-- **spec.LotsValid**. -/
theorem specLots_any (a : Option Addr) (len cap : Nat) (zs : List Int) (w : World) (h : IsInts w a len cap zs) :
    Calls Tq.prog 59 #[.slice a len cap] w fun e w' => e = .returned (.bool (lotsB zs)) ∧ Dr w w' := by
  have hl := h.2.2.1
  have HV := Lib.hid (lotsB_eq h.1 hl)
  have H := Lib.hid h; clear h
  go_enter Tq.func59, Tq.ntmps59
  go_wp2
  go_loopw [3] (fun i wr => ∃ k : Nat, k ≤ len ∧ i = .int .i64 k ∧ Hid (goodTo zs ((len : Int) - 1) k = true) ∧ Dr w wr) (fun i _ => len - (intOf i).toNat)
  case atStart => exact ⟨0, Nat.zero_le _, rfl, by simp [Hid, goodTo], Dr.refl _⟩
  case round =>
    obtain ⟨k, hk, rfl, hc, hd⟩ := hrel
    by_cases hlt : k < len
    · have HI := H.out.dr hd
      have HK := HI.take hk
      obtain ⟨h1, h2, h3, h4⟩ := HI
      obtain ⟨b, off, rfl, hb, hcell⟩ := h4 (by omega)
      have hck := hcell k hlt
      have HS := goodTo_succ zs ((len : Int) - 1) k
      rw [hc.out, Bool.true_and] at HS
      have HS := Lib.hid HS
      clear h1 h4 hcell
      by_cases hin : inB (zs[k]?.getD 0) 0 ((len : Int) - 1) = true
      · cases hh : hasB (zs.take k) (zs[k]?.getD 0)
        all_goals
          go_wp2
          go_quiet (first | (go_at_call 63; exact quiet_same (l6In_any _ _ _ _)) | (go_at_call 97; exact quiet_same (l1Has_any _ _ _ _ _ _ (HK.drewN _))))
          go_wp2
        · go_roundw
          case rel => exact ⟨k + 1, by omega, by go_num, by unfold Hid; rw [HS.out, hin, hh]; rfl, hd.drewN _⟩
          case measure => simp [intOf]; omega
        · go_ret
          refine ⟨ret_bool ?_, hd.drewN _⟩
          rw [HV.out, goodTo_no (by rw [HS.out, hin, hh]; rfl) hlt]; rfl
      · have hin' : inB (zs[k]?.getD 0) 0 ((len : Int) - 1) = false := by simpa using hin
        clear hin
        go_wp2
        go_quiet (first | (go_at_call 63; exact quiet_same (l6In_any _ _ _ _)) | (go_at_call 97; exact quiet_same (l1Has_any _ _ _ _ _ _ (HK.drewN _))))
        go_wp2
        go_ret
        refine ⟨ret_bool ?_, hd.drewN _⟩
        rw [HV.out, goodTo_no (by rw [HS.out, hin']; rfl) hlt]; rfl
    · obtain rfl : k = len := by omega
      go_wp2_with (go_at_call 63; refine (l6In_any _ _ _ _).mono ?_; rintro e w' ⟨rfl, rfl⟩)
      go_ret
      refine ⟨ret_bool ?_, hd⟩
      rw [HV.out, hc.out, Bool.true_and]

set_option maxHeartbeats 1000000 in
theorem l4First_any (a : Option Addr) (len cap : Nat) (zs : List Int) (a' : Option Addr) (len' cap' : Nat) (L : List Bool) (w : World) (h : IsInts w a len cap zs) (h' : IsBools w a' len' cap' L) (hr : ∀ z ∈ zs, 0 ≤ z ∧ z < (len' : Int)) :
    Calls Tq.prog 69 #[.slice a len cap, .slice a' len' cap'] w fun e w' => e = .returned (.int .i64 (pickL zs L)) ∧ w = w' := by
  obtain ⟨h1, h2, h3, h4⟩ := h
  obtain ⟨g1, g2, g3, g4⟩ := h'
  have H1 := Lib.hid h1; clear h1
  have H4 := Lib.hid h4; clear h4
  have G4 := Lib.hid g4; clear g4 g1
  have HR := Lib.hid hr; clear hr
  go_enter Tq.func69, Tq.ntmps69
  go_wp2
  go_loop [5] (fun i => ∃ k : Nat, k ≤ len ∧ i = .int .i64 k ∧ Hid (pickL zs L = pickL (zs.drop k) L)) (fun i => len - (intOf i).toNat)
  case atStart => exact ⟨0, Nat.zero_le _, rfl, by simp [Hid]⟩
  case round =>
    obtain ⟨k, hk, rfl, hp⟩ := hrel
    by_cases hlt : k < len
    · obtain ⟨b, o, rfl, hb, hc⟩ := H4.out (by omega)
      have hz := hc k hlt
      have hkz : k < zs.length := by rw [H1.out]; exact hlt
      have hr := HR.out (zs[k]?.getD 0) (by simp [hkz])
      obtain ⟨c, hcz⟩ := Int.eq_ofNat_of_zero_le hr.1
      obtain ⟨lb, lo, rfl, hlb, hlc⟩ := G4.out (by omega)
      have hcl : c < len' := by omega
      have hcell := hlc c hcl
      rw [hcz] at hz
      have HD : zs.drop k = (c : Int) :: zs.drop (k + 1) := by
        rw [List.drop_eq_getElem_cons hkz, ← hcz]; simp [hkz]
      have HD := Lib.hid HD
      clear hc hlc hr hcz hkz
      cases hL : L[c]?.getD false
      · have HL := Lib.hid hL
        go_wp2
        go_round
        case rel =>
          refine ⟨k + 1, by omega, by go_num, ?_⟩
          unfold Hid
          rw [hp.out, HD.out, pickL, if_neg (by rw [Int.toNat_natCast, HL.out]; simp)]
        case measure => simp [intOf]; omega
      · have HL := Lib.hid hL
        go_wp2
        go_ret
        refine ⟨ret_int ?_, rfl⟩
        rw [hp.out, HD.out, pickL, if_pos (by rw [Int.toNat_natCast]; exact HL.out)]
    · obtain rfl : k = len := by omega
      go_wp2
      go_ret
      refine ⟨ret_int ?_, rfl⟩
      rw [hp.out, List.drop_of_length_le (by rw [H1.out]; omega)]; rfl

end Go.Proofs.Ytgkakgibgfehaaa

namespace Go.Proofs.Ytgkakgibgfehaaa
open Go.RowKit

/-- **impl.LotsValid**, its answer named. -/
theorem implLots_as (a : Option Addr) (len cap : Nat) (zs : List Int) (v : Bool) (w : World) (h : IsInts w a len cap zs) (hv : lotsB zs = v) :
    Calls Tq.prog 65 #[.slice a len cap] w fun e w' => e = .returned (.bool v) ∧ Below w.heap.size w w' := by
  subst hv; exact implLots_any a len cap zs w h
/-- **spec.LotsValid**, its answer named. -/
theorem specLots_as (a : Option Addr) (len cap : Nat) (zs : List Int) (v : Bool) (w : World) (h : IsInts w a len cap zs) (hv : lotsB zs = v) :
    Calls Tq.prog 59 #[.slice a len cap] w fun e w' => e = .returned (.bool v) ∧ Dr w w' := by
  subst hv; exact specLots_any a len cap zs w h

end Go.Proofs.Ytgkakgibgfehaaa

namespace Go.Proofs.Ytgkakgibgfehaaa
open Go.RowKit

attribute [local go_sem] Oper.semAt_some

/-- What PluralityWinner and PluralityMargin tell. -/
def plOk (ps : List Pl) (lots : List Int) : Bool := lotsB lots && fitsB ps (lots.length : Int)
theorem plOk_iff (ps : List Pl) (lots : List Int) : plOk ps lots = true ↔ lotsB lots = true ∧ fitsB ps (lots.length : Int) = true := by simp [plOk]
def plWin (ps : List Pl) (lots : List Int) : Int := if plOk ps lots = true then winL ps lots else -1
def plMar (ps : List Pl) (lots : List Int) : Int := if plOk ps lots = true then marginL ps lots else -1
theorem plurC_counts (ps : List Pl) (n : Nat) : plurC ps n = countsL ps (noneL n) := rfl
theorem noneL_len (n : Nat) : (noneL n).length = n := by simp [noneL]
theorem nones_made (n : Nat) : (madeCells (Value.bool false).cells (n * 1)).toList = (noneL n).map Value.bool := by
  rw [show (Value.bool false).cells = #[.bool false] from rfl, toList_madeCells_one]; simp [noneL]
theorem bool_infoP : (Tq.prog.info? 4).map (fun i => (i.zero, i.size, i.bytes)) = some (some (.bool false), 1, 1) := by kernel_rfl
theorem nones_own {w : World} {base g n c : Nat} (h : w.ownsRow base 4 1 (.slice (some ⟨g, 0, none⟩) n c) n ((noneL n).map Value.bool)) (hn : n ≤ 1048600) (hc : n ≤ c) : IsBools w (some ⟨g, 0, none⟩) n c (noneL n) := by
  refine ⟨noneL_len n, hc, hn, fun hp => ⟨g, 0, rfl, (h.lt g rfl).2, fun j hj => ?_⟩⟩
  rw [Nat.zero_add, h.cellAt j (by omega)]
  simp [noneL, hj]
theorem plur_low {ps : List Pl} {n : Nat} (h : fitsB ps (n : Int) = true) (i : Nat) : 0 ≤ (plurC ps n)[i]?.getD 0 ∧ (plurC ps n)[i]?.getD 0 ≤ 5940 := by
  rw [plurC_counts]
  have h' : fitsB ps ((noneL n).length : Int) = true := by rw [noneL_len]; exact h
  exact (fst_facts h').2.2.1 i
theorem win_in {ps : List Pl} {lots : List Int} (h : plOk ps lots = true) : 0 ≤ winL ps lots ∧ winL ps lots < (lots.length : Int) ∧ 1 ≤ lots.length ∧ lots.length ≤ 5 := by
  obtain ⟨h1, h2⟩ := (plOk_iff _ _).1 h
  have hp := (pilesB_pos (fits_parts h2).1).2.1
  have hr := winL_range h1 hp
  have hn := lotsB_len h1
  omega

set_option maxRecDepth 100000 in
set_option maxHeartbeats 2000000 in
/-- **pluralityCounts**. -/
theorem plurCounts_as (pa : Option Addr) (l ca : Nat) (ps : List Pl) (al : Option Addr) (n cl : Nat) (lots : List Int) (v : Bool) (zs : List Int) (w : World) (hps : IsPiles w pa l ca ps) (hsm : Small ps) (hl : IsInts w al n cl lots) (hv : plOk ps lots = v) (hz : (if v then plurC ps n else []) = zs) :
    Calls Tq.prog 57 #[.slice pa l ca, .slice al n cl] w fun e w' => ∃ a c, e = .returned (.tuple #[.slice a zs.length c, .bool v]) ∧ IsInts w' a zs.length c zs ∧ Below w.heap.size w w' := by
  have HP := Lib.hid hps
  have HI := Lib.hid hl
  have hn := hl.1
  cases h1 : lotsB lots
  · have e : v = false := by rw [← hv]; unfold plOk; rw [h1]; rfl
    subst e
    have e2 : zs = [] := by rw [← hz]; rfl
    subst e2
    have V1 := Lib.hid h1
    clear hps hl hv hz h1 hn
    go_enter Tq.func57, Tq.ntmps57
    go_wp2_with fail
    refine (implLots_as _ _ _ lots false _ HI.out V1.out).mono ?_
    rintro e w1 ⟨rfl, hd⟩
    go_wp2
    go_ret2
    exact ⟨none, 0, rfl, ⟨rfl, Nat.le_refl _, Nat.zero_le _, fun h => absurd h (by simp)⟩, hd⟩
  · have hn5 := lotsB_len h1
    rw [hn] at hn5
    obtain ⟨i0, hi, hz0, hz1, hz2⟩ := info_parts bool_infoP
    have V1 := Lib.hid h1
    have HFV : Hid (fitsB ps (n : Int) = v) := by rw [Hid, ← hv, ← hn]; unfold plOk; rw [h1]; rfl
    have HZ : Hid ((if v then countsL ps (noneL n) else []) = zs) := by rw [Hid, ← hz]; rfl
    have HSM := Lib.hid hsm
    clear hps hl hv hz h1 hn
    go_enter Tq.func57, Tq.ntmps57
    go_wp2_with fail
    refine (implLots_as _ _ _ lots true _ HI.out V1.out).mono ?_
    rintro e w1 ⟨rfl, hd⟩
    have HP := Lib.hid (HP.out.below hd)
    have B1 := Lib.hid hd
    clear hd
    go_wp2_with (at_make; refine wpList_make_full _ rfl _ _ 24 rfl w1.heap.size 4 i0 (.bool false) 1 Tq.underlying24 hi hz0 hz1 .i64 .i64 _ _ n rfl rfl rfl rfl (by rw [hz2]; omega) (by unfold maxLen; omega) (Nat.le_refl _) ?_; intro w2 hown hgrow; have hb2 : Below w1.heap.size w1 w2 := (Below.refl _ w1).grown hgrow (Nat.le_refl _) (fun k e => by cases e); rw [nones_made] at hown; have J := Lib.hid (nones_own hown (by omega) (Nat.le_refl _)); have HP := Lib.hid (HP.out.below hb2); have B2 := Lib.hid (B1.out.trans (hb2.mono B1.out.size)); clear hown hgrow hb2)
    refine (implCounts_to _ _ _ ps _ n n (noneL n) v zs _ HP.out HSM.out J.out HFV.out HZ.out).mono ?_
    rintro e w3 ⟨a, c, rfl, hi3, hb⟩
    have I3 := Lib.hid hi3
    have B3 := Lib.hid (B2.out.trans (hb.mono B2.out.size))
    clear hi3 hb
    go_wp2
    go_ret2
    exact ⟨a, c, rfl, I3.out, B3.out⟩

set_option maxRecDepth 100000 in
set_option maxHeartbeats 2000000 in
/-- **impl.PluralityWinner**. -/
theorem implPlur_as (pa : Option Addr) (l ca : Nat) (ps : List Pl) (al : Option Addr) (n cl : Nat) (lots : List Int) (r : Int) (w : World) (hps : IsPiles w pa l ca ps) (hsm : Small ps) (hl : IsInts w al n cl lots) (hr : plWin ps lots = r) :
    Calls Tq.prog 21 #[.slice pa l ca, .slice al n cl] w fun e w' => e = .returned (.int .i64 r) ∧ Below w.heap.size w w' := by
  have HP := Lib.hid hps
  have HI := Lib.hid hl
  have HSM := Lib.hid hsm
  have hn := hl.1
  cases hk : plOk ps lots
  · have e : r = -1 := by rw [← hr, plWin, if_neg (by rw [hk]; decide)]
    subst e
    have HK := Lib.hid hk
    clear hps hl hr hk hn
    go_enter Tq.func21, Tq.ntmps21
    go_wp2_with fail
    refine (plurCounts_as _ _ _ ps _ n cl lots false [] _ HP.out HSM.out HI.out HK.out rfl).mono ?_
    rintro e w1 ⟨a, c, rfl, -, hb⟩
    go_wp2
    go_ret
    exact ⟨rfl, hb⟩
  · have e : winL ps lots = r := by rw [← hr, plWin, if_pos hk]
    obtain ⟨h1, h2⟩ := (plOk_iff _ _).1 hk
    rw [hn] at h2
    have HW : Hid (pickL lots (mostL (plurC ps n) (allL n)) = r) := by rw [Hid, ← e, ← hn]; rfl
    have HK := Lib.hid hk
    have HL := Lib.hid h1
    have HF := Lib.hid h2
    have hpl : (plurC ps n).length = n := plurC_length _ _
    obtain ⟨zs, hzs⟩ : ∃ zs, plurC ps n = zs := ⟨_, rfl⟩
    have HLO : Hid (∀ i, i < n → 0 ≤ zs[i]?.getD 0) := fun i hi => by rw [← hzs]; exact (plur_low HF.out i).1
    rw [hzs] at HW hpl
    have HZ : Hid ((if true = true then plurC ps n else []) = zs) := hzs
    clear hps hl hr hk hn h1 h2 e hzs
    go_enter Tq.func21, Tq.ntmps21
    go_wp2_with fail
    refine (plurCounts_as _ _ _ ps _ n cl lots true zs _ HP.out HSM.out HI.out HK.out HZ.out).mono ?_
    rintro e w1 ⟨a, c, rfl, hi3, hb⟩
    rw [hpl] at hi3 ⊢
    have I1 := Lib.hid hi3
    have IL := Lib.hid (HI.out.below hb)
    have B1 := Lib.hid hb
    clear hi3 hb
    go_wp2_with fail
    refine (great_as _ n _ zs _ cl lots _ I1.out IL.out HL.out HLO.out r HW.out).mono ?_
    rintro e w2 ⟨rfl, hb⟩
    go_wp2
    go_ret
    exact ⟨rfl, B1.out.trans (hb.mono B1.out.size)⟩

theorem nextTo_top {c : List Int} {w : Int} {m : Int} (h : ∀ i : Nat, c[i]?.getD 0 ≤ m) (hm : 0 ≤ m) (k : Nat) : nextTo c w k ≤ m := by
  induction k with
  | zero => exact hm
  | succ k ih => rw [nextTo_succ]; split <;> (have := h k; omega)

set_option maxRecDepth 100000 in
set_option maxHeartbeats 2000000 in
/-- **impl.PluralityMargin**. -/
theorem implMar_as (pa : Option Addr) (l ca : Nat) (ps : List Pl) (al : Option Addr) (n cl : Nat) (lots : List Int) (r : Int) (w : World) (hps : IsPiles w pa l ca ps) (hsm : Small ps) (hl : IsInts w al n cl lots) (hr : plMar ps lots = r) :
    Calls Tq.prog 25 #[.slice pa l ca, .slice al n cl] w fun e w' => e = .returned (.int .i64 r) ∧ Below w.heap.size w w' := by
  have HP := Lib.hid hps
  have HI := Lib.hid hl
  have HSM := Lib.hid hsm
  have hn := hl.1
  cases hk : plOk ps lots
  · have e : r = -1 := by rw [← hr, plMar, if_neg (by rw [hk]; decide)]
    subst e
    have HK := Lib.hid hk
    clear hps hl hr hk hn
    go_enter Tq.func25, Tq.ntmps25
    go_wp2_with fail
    refine (plurCounts_as _ _ _ ps _ n cl lots false [] _ HP.out HSM.out HI.out HK.out rfl).mono ?_
    rintro e w1 ⟨a, c, rfl, -, hb⟩
    go_wp2
    go_ret
    exact ⟨rfl, hb⟩
  · have e : marginL ps lots = r := by rw [← hr, plMar, if_pos hk]
    have hwr := win_in hk
    obtain ⟨h1, h2⟩ := (plOk_iff _ _).1 hk
    rw [hn] at h2 hwr
    have hpl : (plurC ps n).length = n := plurC_length _ _
    unfold marginL at e
    rw [hn] at e
    obtain ⟨q, hq⟩ : ∃ q, winL ps lots = q := ⟨_, rfl⟩
    have HW : Hid (pickL lots (mostL (plurC ps n) (allL n)) = q) := by rw [Hid, ← hq, ← hn]; rfl
    rw [hq] at hwr e
    have HK := Lib.hid hk
    have HL := Lib.hid h1
    have HLB : Hid (∀ i : Nat, 0 ≤ (plurC ps n)[i]?.getD 0 ∧ (plurC ps n)[i]?.getD 0 ≤ 5940) := fun i => plur_low h2 i
    obtain ⟨zs, hzs⟩ : ∃ zs, plurC ps n = zs := ⟨_, rfl⟩
    rw [hzs] at HW hpl HLB e
    have HE := Lib.hid e
    have HZ : Hid ((if true = true then plurC ps n else []) = zs) := hzs
    obtain ⟨Q, rfl⟩ := Int.eq_ofNat_of_zero_le hwr.1
    have hQn : Q < n := by omega
    have hQi : (Q : Int) < (n : Int) := by omega
    clear hps hl hr hk hn h1 h2 e hzs hq
    go_enter Tq.func25, Tq.ntmps25
    go_wp2_with fail
    refine (plurCounts_as _ _ _ ps _ n cl lots true zs _ HP.out HSM.out HI.out HK.out HZ.out).mono ?_
    rintro e w1 ⟨a, c, rfl, hi3, hb⟩
    rw [hpl] at hi3 ⊢
    have I1 := Lib.hid hi3
    have IL := Lib.hid (HI.out.below hb)
    have B1 := Lib.hid hb
    clear hi3 hb
    go_wp2_with fail
    refine (great_as _ n _ zs _ cl lots _ I1.out IL.out HL.out (fun i hi => (HLB.out i).1) (Q : Int) HW.out).mono ?_
    rintro e w2 ⟨rfl, hb⟩
    have I2 := Lib.hid (I1.out.below hb)
    have B2 := Lib.hid (B1.out.trans (hb.mono B1.out.size))
    obtain ⟨b, off, rfl, hbl, hc⟩ := I2.out.2.2.2 (by omega)
    have HC := Lib.hid hc
    clear hb hc
    go_wp2
    go_loop [8, 9, 10, 24] (fun nv _ _ iv => ∃ (i : Nat) (t : Int), i ≤ n ∧ iv = .int .i64 (i : Int) ∧ nv = .int .i64 t ∧ Hid (nextTo zs (Q : Int) i = t)) (fun _ _ _ iv => n - (intOf iv).toNat)
    case atStart => exact ⟨0, 0, Nat.zero_le _, rfl, rfl, rfl⟩
    case round =>
      obtain ⟨i, t, hil, rfl, rfl, hT⟩ := hrel
      by_cases hlt : i < n
      · have ci := HC.out i hlt
        have hzb := HLB.out i
        have HN := nextTo_succ zs (Q : Int) i
        rw [hT.out] at HN
        obtain ⟨z, hz⟩ : ∃ z, zs[i]?.getD 0 = z := ⟨_, rfl⟩
        rw [hz] at ci hzb HN
        have hii : (i : Int) < (n : Int) := by omega
        clear hz
        by_cases hiq : i = Q
        · have hne : ((i : Int) != (Q : Int)) = false := by simp [hiq]
          have HN2 : Hid (nextTo zs (Q : Int) (i + 1) = t) := by rw [Hid, HN, if_neg (by omega)]
          clear HN hiq
          go_wp2
          go_round
          case rel => exact ⟨i + 1, t, by omega, by go_num, rfl, HN2⟩
          case measure => simp [intOf]; omega
        · have hne : ((i : Int) != (Q : Int)) = true := bne_iff_ne.2 (by omega)
          rw [if_pos (by omega)] at HN
          clear hiq
          by_cases htz : t < z
          · have HN2 : Hid (nextTo zs (Q : Int) (i + 1) = z) := by rw [Hid, HN]; omega
            clear HN
            go_wp2
            go_round
            case rel => exact ⟨i + 1, z, by omega, by go_num, by first | rfl | (congr 1; omega), HN2⟩
            case measure => simp [intOf]; omega
          · have HN2 : Hid (nextTo zs (Q : Int) (i + 1) = t) := by rw [Hid, HN]; omega
            clear HN
            go_wp2
            go_round
            case rel => exact ⟨i + 1, t, by omega, by go_num, by first | rfl | (congr 1; omega), HN2⟩
            case measure => simp [intOf]; omega
      · obtain rfl : i = n := by omega
        have cq := HC.out Q hQn
        have hqb := HLB.out Q
        have htb := nextTo_low zs (Q : Int) i
        have htt := nextTo_top (c := zs) (w := (Q : Int)) (m := 5940) (fun j => (HLB.out j).2) (by omega) i
        have HEE := HE.out
        rw [Int.toNat_natCast] at HEE
        rw [hT.out] at HEE htb htt
        obtain ⟨z, hz⟩ : ∃ z, zs[Q]?.getD 0 = z := ⟨_, rfl⟩
        rw [hz] at cq hqb HEE
        have hwz : IntKind.i64.wrap (z - t) = z - t := IntWalk.i64_in _ (by omega)
        clear hz
        go_wp2
        go_ret
        exact ⟨by first | rfl | exact ret_int HEE, B2.out⟩

end Go.Proofs.Ytgkakgibgfehaaa

namespace Go.Proofs.Ytgkakgibgfehaaa
open Go.RowKit

attribute [local go_sem] Oper.semAt_some

theorem bool_info10 : (Tq.prog.info? 4).map (fun i => (i.zero, i.size, i.bytes)) = some (some (.bool false), 1, 1) := by kernel_rfl
set_option maxRecDepth 100000 in
set_option maxHeartbeats 2000000 in
/-- **l11All**. -/
theorem all11_as (n : Nat) (w : World) (hn : n ≤ 5) :
    Calls Tq.prog 71 #[.int .i64 (n : Int)] w fun e w' => ∃ a c, e = .returned (.slice a n c) ∧ w'.ownsRow w.heap.size 4 1 (.slice a n c) n ((allL n).map Value.bool) ∧ Below w.heap.size w w' := by
  obtain ⟨i0, hi, hz0, hz1, hz2⟩ := info_parts bool_info10
  have HE0 := Lib.hid (World.ownsRow_lit (base := w.heap.size) (e := 4) (size := 1) w #[] 0 (Nat.le_refl _) (by unfold maxLen; omega) rfl)
  have HB0 : Below w.heap.size w (w.alloc (.cells #[] 4)) := (Below.refl _ w).alloc (Nat.le_refl _) _
  go_enter Tq.func71, Tq.ntmps71
  go_wp2
  go_loopw [3, 4] (fun rv iv wr => ∃ (k : Nat) (a : Option Addr) (cap : Nat), k ≤ n ∧ iv = .int .i64 (k : Int) ∧ rv = .slice a k cap ∧ Hid (wr.ownsRow w.heap.size 4 1 (.slice a k cap) k ((allL k).map Value.bool)) ∧ Below w.heap.size w wr) (fun _ iv _ => n - (intOf iv).toNat)
  case atStart => exact ⟨0, _, _, Nat.zero_le _, rfl, rfl, HE0.out, HB0⟩
  case round =>
    clear HE0 HB0
    obtain ⟨k, a, cap, hk, rfl, rfl, ho, hB⟩ := hrel
    by_cases hlt : k < n
    · go_wp2_with (at_builtin; refine wpList_append_own _ rfl _ _ 24 rfl w.heap.size 4 i0 (.bool false) 1 1 Tq.underlying24 hi hz0 hz1 hz2 rfl (by decide) _ _ _ rfl (ho.out.alloc _) ⟨wr.heap.size, 0, none⟩ 1 1 [.bool true] rfl rfl (cell_one_new _ _ _) (by simp [Value.oneCell']) (by unfold maxLen; omega) (by omega) (by have := hB.size; simp; omega) ?_; intro v' w4 hown' hgrow _; obtain ⟨a4, cap4, rfl⟩ := owns_slice hown')
      have hrow : ∀ j, (Value.slice a k cap).ownBlock = some j → w.heap.size ≤ j := fun j ej => (ho.out.lt j ej).1
      have hB4 := (hB.alloc hB.size (.cells #[.bool true] 4)).grown hgrow (by have := hB.size; simp; omega) (fun j e => hrow j e)
      have HO4 : Hid (w4.ownsRow w.heap.size 4 1 (.slice a4 (k + 1) cap4) (k + 1) ((allL (k + 1)).map Value.bool)) := by
        unfold Hid; rw [allL, List.replicate_succ', List.map_append]; exact hown'
      clear hown' hgrow hrow
      go_wp2
      go_roundw
      case rel => exact ⟨k + 1, a4, cap4, by omega, by go_num, rfl, HO4.out, hB4⟩
      case measure => simp [intOf]; omega
    · obtain rfl : k = n := by omega
      go_wp2
      go_ret
      exact ⟨a, cap, rfl, ho.out, hB⟩

/-- What l11Most has found so far. -/
def mostTo (cs : List Int) (s : List Bool) (m : Int) (k : Nat) : List Bool := (List.range k).map fun i => s[i]?.getD false && (cs[i]?.getD 0 == m)
theorem mostTo_succ (cs : List Int) (s : List Bool) (m : Int) (k : Nat) : mostTo cs s m (k + 1) = mostTo cs s m k ++ [s[k]?.getD false && (cs[k]?.getD 0 == m)] := by simp [mostTo, List.range_succ]
set_option maxRecDepth 100000 in
set_option maxHeartbeats 4000000 in
/-- **l11Most**. -/
theorem most11_as (a : Option Addr) (n cap : Nat) (cs : List Int) (a' : Option Addr) (cap' : Nat) (s : List Bool) (w : World) (h : IsInts w a n cap cs) (h' : IsBools w a' n cap' s) (L : List Bool) (hL : mostL cs s = L) :
    Calls Tq.prog 70 #[.slice a n cap, .slice a' n cap'] w fun e w' => ∃ a c, e = .returned (.slice a n c) ∧ w'.ownsRow w.heap.size 4 1 (.slice a n c) n (L.map Value.bool) ∧ Below w.heap.size w w' := by
  obtain ⟨i0, hi, hz0, hz1, hz2⟩ := info_parts bool_info10
  obtain ⟨h1, h2, h3, h4⟩ := h
  obtain ⟨g1, g2, g3, g4⟩ := id h'
  have H1 := Lib.hid h1
  have H4 := Lib.hid h4
  have G4 := Lib.hid g4
  have HL := Lib.hid hL
  clear h1 h4 g4 g1 hL h'
  go_enter Tq.func70, Tq.ntmps70
  go_wp2
  go_loop [5, 6] (fun bv iv => ∃ (i : Nat) (m : Int), i ≤ n ∧ iv = .int .i64 (i : Int) ∧ bv = .int .i64 m ∧ Hid (bestS cs s i = m)) (fun _ iv => n - (intOf iv).toNat)
  case atStart => exact ⟨0, -1, Nat.zero_le _, rfl, rfl, bestS_zero _ _⟩
  case round =>
    obtain ⟨i, m, hin, rfl, rfl, hM⟩ := hrel
    by_cases hlt : i < n
    · obtain ⟨b, off, rfl, hb, hc⟩ := H4.out (by omega)
      obtain ⟨b', off', rfl, hb', hc'⟩ := G4.out (by omega)
      have ci := hc i hlt
      have si := hc' i hlt
      obtain ⟨z, hz⟩ : ∃ z, cs[i]?.getD 0 = z := ⟨_, rfl⟩
      obtain ⟨u, hu⟩ : ∃ u, s[i]?.getD false = u := ⟨_, rfl⟩
      rw [hz] at ci
      rw [hu] at si
      have HN : Hid (bestS cs s (i + 1) = if u = true then max m z else m) := by rw [Hid, bestS_succ, hu, hz, hM.out]
      clear hc hc' hz hu
      cases u
      · have HN2 : Hid (bestS cs s (i + 1) = m) := by rw [Hid, HN.out]; rfl
        clear HN
        go_wp2
        go_round
        case rel => exact ⟨i + 1, m, by omega, by go_num, rfl, HN2⟩
        case measure => simp [intOf]; omega
      · by_cases hmz : m < z
        · have HN2 : Hid (bestS cs s (i + 1) = z) := by rw [Hid, HN.out, if_pos rfl]; omega
          clear HN
          go_wp2
          go_round
          case rel => exact ⟨i + 1, z, by omega, by go_num, by first | rfl | (congr 1; omega), HN2⟩
          case measure => simp [intOf]; omega
        · have HN2 : Hid (bestS cs s (i + 1) = m) := by rw [Hid, HN.out, if_pos rfl]; omega
          clear HN
          go_wp2
          go_round
          case rel => exact ⟨i + 1, m, by omega, by go_num, by first | rfl | (congr 1; omega), HN2⟩
          case measure => simp [intOf]; omega
    · obtain rfl : i = n := by omega
      have HL2 : Hid (mostTo cs s m i = L) := by rw [Hid, ← HL.out, mostL, H1.out, hM.out]; rfl
      have HE0 := Lib.hid (World.ownsRow_lit (base := w.heap.size) (e := 4) (size := 1) w #[] 0 (Nat.le_refl _) (by unfold maxLen; omega) rfl)
      have HB0 : Below w.heap.size w (w.alloc (.cells #[] 4)) := (Below.refl _ w).alloc (Nat.le_refl _) _
      go_wp2
      go_loopw [7, 8] (fun rv iv wr => ∃ (k : Nat) (a : Option Addr) (cap : Nat), k ≤ i ∧ iv = .int .i64 (k : Int) ∧ rv = .slice a k cap ∧ Hid (wr.ownsRow w.heap.size 4 1 (.slice a k cap) k ((mostTo cs s m k).map Value.bool)) ∧ Below w.heap.size w wr) (fun _ iv _ => i - (intOf iv).toNat)
      case atStart => exact ⟨0, _, _, Nat.zero_le _, rfl, rfl, HE0.out, HB0⟩
      case round =>
        clear HE0 HB0
        obtain ⟨k, ar, cr, hk, rfl, rfl, ho, hB⟩ := hrel
        by_cases hlt : k < i
        · obtain ⟨b, off, rfl, hb, hc⟩ := H4.out (by omega)
          obtain ⟨b', off', rfl, hb', hc'⟩ := G4.out (by omega)
          have ck : wr.cell? ⟨b, off + k, none⟩ = _ := (hB.cell (p := ⟨b, off + k, none⟩) hb).trans (hc k hlt)
          have sk : wr.cell? ⟨b', off' + k, none⟩ = _ := (hB.cell (p := ⟨b', off' + k, none⟩) hb').trans (hc' k hlt)
          obtain ⟨z, hz⟩ : ∃ z, cs[k]?.getD 0 = z := ⟨_, rfl⟩
          obtain ⟨u, hu⟩ : ∃ u, s[k]?.getD false = u := ⟨_, rfl⟩
          obtain ⟨q, hq⟩ : ∃ q, (z == m) = q := ⟨_, rfl⟩
          rw [hz] at ck
          rw [hu] at sk
          have HN : Hid (mostTo cs s m (k + 1) = mostTo cs s m k ++ [u && q]) := by rw [Hid, mostTo_succ, hu, hz, hq]
          clear hc hc' hz hu
          cases u
          · skip
            go_wp2_with (at_builtin; refine wpList_append_own _ rfl _ _ 24 rfl w.heap.size 4 i0 (.bool false) 1 1 Tq.underlying24 hi hz0 hz1 hz2 rfl (by decide) _ _ _ rfl (ho.out.alloc _) ⟨wr.heap.size, 0, none⟩ 1 1 [.bool (false)] rfl rfl (cell_one_new _ _ _) (by simp [Value.oneCell']) (by unfold maxLen; omega) (by omega) (by have := hB.size; simp; omega) ?_; intro v' w4 hown' hgrow _; obtain ⟨a4, cap4, rfl⟩ := owns_slice hown')
            have hrow : ∀ j, (Value.slice ar k cr).ownBlock = some j → w.heap.size ≤ j := fun j ej => (ho.out.lt j ej).1
            have hB4 := (hB.alloc hB.size (.cells #[.bool (false)] 4)).grown hgrow (by have := hB.size; simp; omega) (fun j e => hrow j e)
            have HO4 : Hid (w4.ownsRow w.heap.size 4 1 (.slice a4 (k + 1) cap4) (k + 1) ((mostTo cs s m (k + 1)).map Value.bool)) := by
              unfold Hid; rw [HN.out, List.map_append]; exact hown'
            clear hown' hgrow hrow
            go_wp2
            go_roundw
            case rel => exact ⟨k + 1, a4, cap4, by omega, by go_num, rfl, HO4.out, hB4⟩
            case measure => simp [intOf]; omega
          · skip
            go_wp2_with (at_builtin; refine wpList_append_own _ rfl _ _ 24 rfl w.heap.size 4 i0 (.bool false) 1 1 Tq.underlying24 hi hz0 hz1 hz2 rfl (by decide) _ _ _ rfl (ho.out.alloc _) ⟨wr.heap.size, 0, none⟩ 1 1 [.bool (q)] rfl rfl (cell_one_new _ _ _) (by simp [Value.oneCell']) (by unfold maxLen; omega) (by omega) (by have := hB.size; simp; omega) ?_; intro v' w4 hown' hgrow _; obtain ⟨a4, cap4, rfl⟩ := owns_slice hown')
            have hrow : ∀ j, (Value.slice ar k cr).ownBlock = some j → w.heap.size ≤ j := fun j ej => (ho.out.lt j ej).1
            have hB4 := (hB.alloc hB.size (.cells #[.bool (q)] 4)).grown hgrow (by have := hB.size; simp; omega) (fun j e => hrow j e)
            have HO4 : Hid (w4.ownsRow w.heap.size 4 1 (.slice a4 (k + 1) cap4) (k + 1) ((mostTo cs s m (k + 1)).map Value.bool)) := by
              unfold Hid; rw [HN.out, List.map_append]; exact hown'
            clear hown' hgrow hrow
            go_wp2
            go_roundw
            case rel => exact ⟨k + 1, a4, cap4, by omega, by go_num, rfl, HO4.out, hB4⟩
            case measure => simp [intOf]; omega
        · obtain rfl : k = i := by omega
          go_wp2
          go_ret
          exact ⟨ar, cr, rfl, by rw [← HL2.out]; exact ho.out, hB⟩

end Go.Proofs.Ytgkakgibgfehaaa

namespace Go.Proofs.Ytgkakgibgfehaaa
open Go.RowKit

attribute [local go_sem] Oper.semAt_some

set_option maxRecDepth 100000 in
set_option maxHeartbeats 2000000 in
/-- **l11Winner**, at valid arguments. -/
theorem win11_as (a : Option Addr) (len cap : Nat) (ps : List Pl) (a' : Option Addr) (n cap' : Nat) (lots : List Int) (r : Int) (w : World) (h : IsPiles w a len cap ps) (hs : Small ps) (h' : IsInts w a' n cap' lots) (hk : plOk ps lots = true) (hr : winL ps lots = r) :
    Calls Tq.prog 60 #[.slice a len cap, .slice a' n cap'] w fun e w' => e = .returned (.int .i64 r) ∧ Below w.heap.size w w' := by
  obtain ⟨i0, hi, hz0, hz1, hz2⟩ := info_parts bool_infoP
  have hwr := win_in hk
  obtain ⟨k1, k2⟩ := (plOk_iff _ _).1 hk
  have hn := h'.1
  rw [hn] at hwr k2
  have HP := Lib.hid h
  have HI := Lib.hid h'
  have HSM := Lib.hid hs
  have HF := Lib.hid k2
  have HZ : Hid (∀ z ∈ lots, 0 ≤ z ∧ z < (n : Int)) := fun z hz => by have := lotsB_mem k1 z hz; rw [hn] at this; exact this
  have HR : Hid (pickL lots (mostL (plurC ps n) (allL n)) = r) := by rw [Hid, ← hr, ← hn]; rfl
  clear h h' hk hr k1 k2 hn
  go_enter Tq.func60, Tq.ntmps60
  go_wp2_with (at_make; refine wpList_make_full _ rfl _ _ 24 rfl w.heap.size 4 i0 (.bool false) 1 Tq.underlying24 hi hz0 hz1 .i64 .i64 _ _ n rfl rfl rfl rfl (by rw [hz2]; omega) (by unfold maxLen; omega) (Nat.le_refl _) ?_; intro w2 hown hgrow; have hb2 : Below w.heap.size w w2 := (Below.refl _ w).grown hgrow (Nat.le_refl _) (fun k e => by cases e); rw [nones_made] at hown; have J := Lib.hid (nones_own hown (by omega) (Nat.le_refl _)); clear hown hgrow)
  have HP2 := Lib.hid (HP.out.below hb2)
  have HI2 := Lib.hid (HI.out.below hb2)
  have B2 := Lib.hid hb2
  clear hb2
  refine (specCounts0_as _ _ _ ps _ n n (noneL n) _ HP2.out HSM.out J.out HF.out).mono ?_
  rintro e w3 ⟨g, rfl, ho, hb⟩
  have IC := Lib.hid (IsInts.of_owned ho (by omega))
  have HI3 := Lib.hid (HI2.out.below hb)
  have B3 := Lib.hid (B2.out.trans (hb.mono B2.out.size))
  clear ho hb HP2 HI2 J
  go_wp2_with fail
  refine (all11_as n _ (by omega)).mono ?_
  rintro e w4 ⟨aa, ca, rfl, ho, hb⟩
  have JA := Lib.hid (IsBools.of_owned ho (by omega))
  have IC := Lib.hid (IC.out.below hb)
  have HI4 := Lib.hid (HI3.out.below hb)
  have B4 := Lib.hid (B3.out.trans (hb.mono B3.out.size))
  clear ho hb HI3
  go_wp2_with fail
  refine (most11_as _ n _ (countsL ps (noneL n)) _ _ (allL n) _ IC.out JA.out _ rfl).mono ?_
  rintro e w5 ⟨am, cm, rfl, ho, hb⟩
  have JM := Lib.hid (IsBools.of_owned ho (by omega))
  have HI5 := Lib.hid (HI4.out.below hb)
  have B5 := Lib.hid (B4.out.trans (hb.mono B4.out.size))
  clear ho hb HI4
  go_wp2_with fail
  refine (l4First_any _ _ _ lots _ _ _ _ _ HI5.out JM.out HZ.out).mono ?_
  rintro e w6 ⟨rfl, rfl⟩
  go_wp2
  go_ret
  exact ⟨ret_int HR.out, B5.out⟩

set_option maxRecDepth 100000 in
set_option maxHeartbeats 4000000 in
/-- **spec.PluralityWinner**. -/
theorem specPlur_as (a : Option Addr) (len cap : Nat) (ps : List Pl) (a' : Option Addr) (n cap' : Nat) (lots : List Int) (r : Int) (w : World) (h : IsPiles w a len cap ps) (hs : Small ps) (h' : IsInts w a' n cap' lots) (hr : plWin ps lots = r) :
    Calls Tq.prog 22 #[.slice a len cap, .slice a' n cap'] w fun e w' => e = .returned (.int .i64 r) ∧ Below w.heap.size w w' := by
  have HP := Lib.hid h
  have HI := Lib.hid h'
  have HSM := Lib.hid hs
  have hn := h'.1
  cases k1 : lotsB lots
  · have e : r = -1 := by rw [← hr, plWin, if_neg (by unfold plOk; rw [k1]; simp)]
    subst e
    have V1 := Lib.hid k1
    clear h h' hr k1 hn
    go_enter Tq.func22, Tq.ntmps22
    go_wp2_with fail
    refine (specLots_as _ _ _ lots false _ HI.out V1.out).mono ?_
    rintro e w1 ⟨rfl, hd⟩
    go_wp2
    go_ret
    exact ⟨rfl, hd.below _⟩
  cases k2 : fitsB ps (n : Int)
  · have e : r = -1 := by rw [← hr, plWin, if_neg (by unfold plOk; rw [hn, k2]; simp)]
    subst e
    have V1 := Lib.hid k1
    have V2 := Lib.hid k2
    clear h h' hr k1 k2 hn
    go_enter Tq.func22, Tq.ntmps22
    go_wp2_with fail
    refine (specLots_as _ _ _ lots true _ HI.out V1.out).mono ?_
    rintro e w1 ⟨rfl, hd⟩
    have HP1 := Lib.hid (HP.out.below (hd.below w.heap.size))
    have B1 := Lib.hid (hd.below w.heap.size)
    clear hd
    go_wp2_with fail
    refine (specFits_as _ _ _ ps (n : Int) false _ HP1.out HSM.out V2.out).mono ?_
    rintro e w2 ⟨rfl, hb⟩
    go_wp2
    go_ret
    exact ⟨rfl, B1.out.trans (hb.mono B1.out.size)⟩
  have hk : plOk ps lots = true := (plOk_iff _ _).2 ⟨k1, by rw [hn]; exact k2⟩
  have e : winL ps lots = r := by rw [← hr, plWin, if_pos hk]
  have HK := Lib.hid hk
  have V1 := Lib.hid k1
  have V2 := Lib.hid k2
  have HE := Lib.hid e
  clear h h' hr k1 k2 hn hk e
  go_enter Tq.func22, Tq.ntmps22
  go_wp2_with fail
  refine (specLots_as _ _ _ lots true _ HI.out V1.out).mono ?_
  rintro e w1 ⟨rfl, hd⟩
  have HP := Lib.hid (HP.out.below (hd.below w.heap.size))
  have HI := Lib.hid (HI.out.below (hd.below w.heap.size))
  have B1 := Lib.hid (hd.below w.heap.size)
  clear hd
  go_wp2_with fail
  refine (specFits_as _ _ _ ps (n : Int) true _ HP.out HSM.out V2.out).mono ?_
  rintro e w2 ⟨rfl, hb⟩
  have HP := Lib.hid (HP.out.below hb)
  have HI := Lib.hid (HI.out.below hb)
  have B2 := Lib.hid (B1.out.trans (hb.mono B1.out.size))
  clear hb
  go_wp2_with fail
  refine (win11_as _ _ _ ps _ n _ lots r _ HP.out HSM.out HI.out HK.out HE.out).mono ?_
  rintro e w3 ⟨rfl, hb⟩
  go_wp2
  go_ret
  exact ⟨rfl, B2.out.trans (hb.mono B2.out.size)⟩

set_option maxRecDepth 100000 in
set_option maxHeartbeats 4000000 in
/-- **spec.PluralityMargin**. -/
theorem specMar_as (a : Option Addr) (len cap : Nat) (ps : List Pl) (a' : Option Addr) (n cap' : Nat) (lots : List Int) (r : Int) (w : World) (h : IsPiles w a len cap ps) (hs : Small ps) (h' : IsInts w a' n cap' lots) (hr : plMar ps lots = r) :
    Calls Tq.prog 26 #[.slice a len cap, .slice a' n cap'] w fun e w' => e = .returned (.int .i64 r) ∧ Below w.heap.size w w' := by
  have HP := Lib.hid h
  have HI := Lib.hid h'
  have HSM := Lib.hid hs
  have hn := h'.1
  cases k1 : lotsB lots
  · have e : r = -1 := by rw [← hr, plMar, if_neg (by unfold plOk; rw [k1]; simp)]
    subst e
    have V1 := Lib.hid k1
    clear h h' hr k1 hn
    go_enter Tq.func26, Tq.ntmps26
    go_wp2_with fail
    refine (specLots_as _ _ _ lots false _ HI.out V1.out).mono ?_
    rintro e w1 ⟨rfl, hd⟩
    go_wp2
    go_ret
    exact ⟨rfl, hd.below _⟩
  cases k2 : fitsB ps (n : Int)
  · have e : r = -1 := by rw [← hr, plMar, if_neg (by unfold plOk; rw [hn, k2]; simp)]
    subst e
    have V1 := Lib.hid k1
    have V2 := Lib.hid k2
    clear h h' hr k1 k2 hn
    go_enter Tq.func26, Tq.ntmps26
    go_wp2_with fail
    refine (specLots_as _ _ _ lots true _ HI.out V1.out).mono ?_
    rintro e w1 ⟨rfl, hd⟩
    have HP1 := Lib.hid (HP.out.below (hd.below w.heap.size))
    have B1 := Lib.hid (hd.below w.heap.size)
    clear hd
    go_wp2_with fail
    refine (specFits_as _ _ _ ps (n : Int) false _ HP1.out HSM.out V2.out).mono ?_
    rintro e w2 ⟨rfl, hb⟩
    go_wp2
    go_ret
    exact ⟨rfl, B1.out.trans (hb.mono B1.out.size)⟩
  have hk : plOk ps lots = true := (plOk_iff _ _).2 ⟨k1, by rw [hn]; exact k2⟩
  have e : marginL ps lots = r := by rw [← hr, plMar, if_pos hk]
  have HK := Lib.hid hk
  have V1 := Lib.hid k1
  have V2 := Lib.hid k2
  have HE := Lib.hid e
  obtain ⟨i0, hi, hz0, hz1, hz2⟩ := info_parts bool_infoP
  have hwr := win_in hk
  have hpl : (plurC ps n).length = n := plurC_length _ _
  unfold marginL at e
  rw [hn] at e hwr
  obtain ⟨q, hq⟩ : ∃ q, winL ps lots = q := ⟨_, rfl⟩
  have HQ := Lib.hid hq
  rw [hq] at hwr e
  have HLB : Hid (∀ i : Nat, 0 ≤ (plurC ps n)[i]?.getD 0 ∧ (plurC ps n)[i]?.getD 0 ≤ 5940) := fun i => plur_low k2 i
  obtain ⟨zs, hzs⟩ : ∃ zs, plurC ps n = zs := ⟨_, rfl⟩
  rw [hzs] at hpl HLB e
  have HE2 := Lib.hid e
  have HZ : Hid (countsL ps (noneL n) = zs) := hzs
  obtain ⟨Q, rfl⟩ := Int.eq_ofNat_of_zero_le hwr.1
  have hQn : Q < n := by omega
  have hQi : (Q : Int) < (n : Int) := by omega
  clear h h' hr k1 k2 hn hk e hzs hq HE
  go_enter Tq.func26, Tq.ntmps26
  go_wp2_with fail
  refine (specLots_as _ _ _ lots true _ HI.out V1.out).mono ?_
  rintro e w1 ⟨rfl, hd⟩
  have HP := Lib.hid (HP.out.below (hd.below w.heap.size))
  have HI := Lib.hid (HI.out.below (hd.below w.heap.size))
  have B1 := Lib.hid (hd.below w.heap.size)
  clear hd
  go_wp2_with fail
  refine (specFits_as _ _ _ ps (n : Int) true _ HP.out HSM.out V2.out).mono ?_
  rintro e w2 ⟨rfl, hb⟩
  have HP := Lib.hid (HP.out.below hb)
  have HI := Lib.hid (HI.out.below hb)
  have B2 := Lib.hid (B1.out.trans (hb.mono B1.out.size))
  clear hb
  go_wp2_with (at_make; refine wpList_make_full _ rfl _ _ 24 rfl w2.heap.size 4 i0 (.bool false) 1 Tq.underlying24 hi hz0 hz1 .i64 .i64 _ _ n rfl rfl rfl rfl (by rw [hz2]; omega) (by unfold maxLen; omega) (Nat.le_refl _) ?_; intro w4 hown hgrow; have hb4 : Below w2.heap.size w2 w4 := (Below.refl _ w2).grown hgrow (Nat.le_refl _) (fun k e => by cases e); rw [nones_made] at hown; have J := Lib.hid (nones_own hown (by omega) (Nat.le_refl _)); clear hown hgrow)
  have HP4 := Lib.hid (HP.out.below hb4)
  have HI4 := Lib.hid (HI.out.below hb4)
  have B4 := Lib.hid (B2.out.trans (hb4.mono B2.out.size))
  clear hb4
  refine (specCounts0_as _ _ _ ps _ n n (noneL n) _ HP4.out HSM.out J.out V2.out).mono ?_
  rintro e w5 ⟨g, rfl, ho, hb⟩
  rw [HZ.out] at ho
  have IC := Lib.hid (IsInts.of_owned ho (by omega))
  have HP5 := Lib.hid (HP4.out.below hb)
  have HI5 := Lib.hid (HI4.out.below hb)
  have B5 := Lib.hid (B4.out.trans (hb.mono B4.out.size))
  clear ho hb HP4 HI4 J HP HI
  go_wp2_with fail
  refine (win11_as _ _ _ ps _ n _ lots (Q : Int) _ HP5.out HSM.out HI5.out HK.out HQ.out).mono ?_
  rintro e w6 ⟨rfl, hb⟩
  have IC := Lib.hid (IC.out.below hb)
  have B6 := Lib.hid (B5.out.trans (hb.mono B5.out.size))
  obtain ⟨b, off, e2, hbl, hc⟩ := IC.out.2.2.2 (by omega)
  injection e2 with e2
  injection e2 with e21 e22
  subst e21
  subst e22
  have HC := Lib.hid hc
  clear hb hc
  go_wp2
  go_loopw [7, 8] (fun nv iv wr => ∃ (i : Nat) (t : Int), i ≤ n ∧ iv = .int .i64 (i : Int) ∧ nv = .int .i64 t ∧ Hid (nextTo zs (Q : Int) i = t) ∧ Dr w6 wr) (fun _ iv _ => n - (intOf iv).toNat)
  case atStart => exact ⟨0, 0, Nat.zero_le _, rfl, rfl, rfl, Dr.refl _⟩
  case round =>
    obtain ⟨i, t, hil, rfl, rfl, hT, hd⟩ := hrel
    by_cases hlt : i < n
    · have ci := ((hd.below w6.heap.size).cell (p := ⟨g, 0 + i, none⟩) hbl).trans (HC.out i hlt)
      have hzb := HLB.out i
      have HN := nextTo_succ zs (Q : Int) i
      rw [hT.out] at HN
      obtain ⟨z, hz⟩ : ∃ z, zs[i]?.getD 0 = z := ⟨_, rfl⟩
      rw [hz] at ci hzb HN
      rw [Nat.zero_add] at ci
      have hii : (i : Int) < (n : Int) := by omega
      clear hz
      by_cases hiq : i = Q
      · have hne : ((i : Int) != (Q : Int)) = false := by simp [hiq]
        have HN2 : Hid (nextTo zs (Q : Int) (i + 1) = t) := by rw [Hid, HN, if_neg (by omega)]
        clear HN hiq
        go_wp2
        go_roundw
        case rel => exact ⟨i + 1, t, by omega, by go_num, rfl, HN2, hd⟩
        case measure => simp [intOf]; omega
      · have hne : ((i : Int) != (Q : Int)) = true := bne_iff_ne.2 (by omega)
        rw [if_pos (by omega)] at HN
        clear hiq
        by_cases htz : t < z
        · have HN2 : Hid (nextTo zs (Q : Int) (i + 1) = z) := by rw [Hid, HN]; omega
          clear HN
          go_wp2_with fail
          (try go_quiet (fail))
          go_wp2
          go_roundw
          case rel => exact ⟨i + 1, z, by omega, by go_num, by first | rfl | (congr 1; omega), HN2, by first | exact hd | exact hd.drewN _⟩
          case measure => simp [intOf]; omega
        · have HN2 : Hid (nextTo zs (Q : Int) (i + 1) = t) := by rw [Hid, HN]; omega
          clear HN
          go_wp2_with fail
          (try go_quiet (fail))
          go_wp2
          go_roundw
          case rel => exact ⟨i + 1, t, by omega, by go_num, by first | rfl | (congr 1; omega), HN2, by first | exact hd | exact hd.drewN _⟩
          case measure => simp [intOf]; omega
    · obtain rfl : i = n := by omega
      have cq := ((hd.below w6.heap.size).cell (p := ⟨g, 0 + Q, none⟩) hbl).trans (HC.out Q hQn)
      have hqb := HLB.out Q
      have htb := nextTo_low zs (Q : Int) i
      have htt := nextTo_top (c := zs) (w := (Q : Int)) (m := 5940) (fun j => (HLB.out j).2) (by omega) i
      have HEE := HE2.out
      rw [Int.toNat_natCast, hT.out] at HEE
      rw [hT.out] at htb htt
      rw [Nat.zero_add] at cq
      obtain ⟨z, hz⟩ : ∃ z, zs[Q]?.getD 0 = z := ⟨_, rfl⟩
      rw [hz] at cq hqb HEE
      have hwz : IntKind.i64.wrap (z - t) = z - t := IntWalk.i64_in _ (by omega)
      have BF := B6.out.trans (hd.below w6.heap.size |>.mono B6.out.size)
      clear hz
      go_wp2_with fail
      (try go_quiet (fail))
      go_wp2
      go_ret
      exact ⟨by first | rfl | exact ret_int HEE, by first | exact BF | exact (BF.trans ((Dr.refl _).drewN _ |>.below _))⟩

end Go.Proofs.Ytgkakgibgfehaaa

