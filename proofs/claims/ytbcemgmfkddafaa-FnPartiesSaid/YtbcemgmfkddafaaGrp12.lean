/-
  The statements' own small functions (toIntS, eqIntS, toBoolS, eqBoolS, markIntS, heldIntS): what each returns, and that it writes only into memory of its own. No condition but what each theorem says.
  The statements' own small functions at bools (toBoolS, eqBoolS): what each returns, and that it writes only into memory of its own. No condition but what each theorem says.
  Who has left, drawn (l91Left): a new slice of bools; the reader has gone on. No condition but what each theorem says.
  Lots, drawn (l91Lots, DrawLotsValid, DrawLotsFirst): a new slice of ints (and one of bools); nothing is written that was there. No condition but what each theorem says.
  Drawn numbers of lots (DrawLotsOf, DrawLotsSeal): in which range they are, and that nothing is written that was there. No condition but what each theorem says.
-/
import Derived.Test.YtbcemgmfkddafaaGrp6
import Derived.Laws.OwnMore
import Derived.OwnWalk
import Derived.Test.YtbcemgmfkddafaaGrp1
import Derived.Deep.Onto
import Derived.Deep.RegionLaw
namespace Go.Proofs.Ytbcemgmfkddafaa
open Go.RowKit

set_option maxHeartbeats 1000000 in
/-- **toIntS**: a new slice with the same ints. -/
theorem toIntS_any (a : Option Addr) (len cap : Nat) (zs : List Int) (w : World) (h : IsInts w a len cap zs) :
    Calls Try.prog 32 #[.slice a len cap] w fun e w' => ∃ g, e = .returned (.slice (some ⟨g, 0, none⟩) len len) ∧ w'.ownsRow w.heap.size 3 1 (.slice (some ⟨g, 0, none⟩) len len) len (zs.map (Value.int .i64)) ∧ Below w.heap.size w w' := by
  obtain ⟨i0, hi, hz0, hz1, hz2⟩ := info_parts int_info
  have H := Lib.hid h
  have hm : len ≤ 1048600 := h.2.2.1
  clear h
  go_enter Try.func32, Try.ntmps32
  go_wp2_with (at_make; refine wpList_make_full _ rfl _ _ 23 rfl w.heap.size 3 i0 (.int .i64 0) 1 Try.underlying23 hi hz0 hz1 .i64 .i64 _ _ len rfl rfl rfl rfl (by rw [hz2]; omega) (by unfold maxLen; omega) (Nat.le_refl _) ?_; intro w1 hown hgrow)
  have hB1 : Below w.heap.size w w1 := (Below.refl _ w).grown hgrow (Nat.le_refl _) (fun k e => by cases e)
  have HO : Hid (w1.ownsRow w.heap.size 3 1 (.slice (some ⟨w.heap.size, 0, none⟩) len len) len ((fillTo zs len 0).map (Value.int .i64))) := by
    unfold Hid
    have e : (madeCells (Value.int .i64 0).cells (len * 1)).toList = (fillTo zs len 0).map (Value.int .i64) := by
      rw [show (Value.int .i64 0).cells = #[.int .i64 0] from rfl, toList_madeCells_one]; simp [fillTo]
    rw [← e]; exact hown
  clear hown hgrow hi hz0 hz1 hz2
  go_wp2
  go_loopw [4] (fun i wr => ∃ k : Nat, k ≤ len ∧ i = .int .i64 k ∧ Hid (wr.ownsRow w.heap.size 3 1 (.slice (some ⟨w.heap.size, 0, none⟩) len len) len ((fillTo zs len k).map (Value.int .i64))) ∧ Below w.heap.size w wr) (fun i _ => len - (intOf i).toNat)
  case atStart => exact ⟨0, Nat.zero_le _, rfl, HO, hB1⟩
  case round =>
    obtain ⟨k, hk, rfl, ho, hB⟩ := hrel
    have HI := H.out.below hB
    obtain ⟨h1, h2, h3, h4⟩ := HI
    have H1 := Lib.hid h1; clear h1
    have hfz := ho.out.frozenAt k
    by_cases hlt : k < len
    · obtain ⟨b, off, rfl, hb, hcell⟩ := h4 (by omega)
      have hck := hcell k hlt
      have hcg : wr.cell? ⟨w.heap.size, k, none⟩ = some (.int .i64 ((fillTo zs len k)[k]?.getD 0)) := by
        rw [ho.out.cellAt k (by omega)]
        have : k < (fillTo zs len k).length := by simp [fillTo, H1.out]; omega
        simp [this]
      have hst := ho.out.stored k (.int .i64 (zs[k]?.getD 0))
      have HS := Lib.hid hst
      clear hcell h4 hst
      go_wp2
      go_roundw
      case rel => exact ⟨k + 1, by omega, by go_num, by unfold Hid; rw [← fillTo_step zs len k H1.out hlt]; exact HS.out.1, hB.setCell (p := ⟨w.heap.size, k, none⟩) (Nat.le_refl _) _⟩
      case measure => simp [intOf]; omega
    · obtain rfl : k = len := by omega
      clear h4
      go_wp2
      go_ret
      exact ⟨_, rfl, by have := ho.out; rwa [fillTo_all zs k H1.out] at this, hB⟩

set_option maxHeartbeats 1000000 in
/-- **eqIntS**: whether two lists are equal. -/
theorem eqIntS_any (a : Option Addr) (len cap : Nat) (zs : List Int) (b : Option Addr) (len' cap' : Nat) (ys : List Int) (w : World) (h : IsInts w a len cap zs) (h' : IsInts w b len' cap' ys) :
    Calls Try.prog 33 #[.slice a len cap, .slice b len' cap'] w fun e w' => e = .returned (.bool (eqB zs ys)) ∧ Dr w w' := by
  by_cases hl : len = len'
  · subst hl
    have hne : ((len : Int) != (len : Int)) = false := by simp
    have hm := h.2.2.1
    have H := Lib.hid h; clear h
    have H' := Lib.hid h'; clear h'
    go_enter Try.func33, Try.ntmps33
    go_wp2
    go_loopw [5] (fun i wr => ∃ k : Nat, k ≤ len ∧ i = .int .i64 k ∧ Hid (zs.take k = ys.take k) ∧ Dr w wr) (fun i _ => len - (intOf i).toNat)
    case atStart => exact ⟨0, Nat.zero_le _, rfl, by simp [Hid], Dr.refl _⟩
    case round =>
      obtain ⟨k, hk, rfl, ht, hd⟩ := hrel
      obtain ⟨h1, _, _, h4⟩ := H.out.dr hd
      obtain ⟨g1, _, _, g4⟩ := H'.out.dr hd
      have H1 := Lib.hid h1; clear h1
      have G1 := Lib.hid g1; clear g1
      by_cases hlt : k < len
      · obtain ⟨b1, o1, rfl, hb1, hc1⟩ := h4 (by omega)
        obtain ⟨b2, o2, rfl, hb2, hc2⟩ := g4 (by omega)
        have hz := hc1 k hlt
        have hy := hc2 k hlt
        clear hc1 hc2 h4 g4
        cases he : (zs[k]?.getD 0 == ys[k]?.getD 0)
        · have hn : (zs[k]?.getD 0 != ys[k]?.getD 0) = true := by simp [bne, he]
          have HE := Lib.hid he; clear he
          go_wp2
          go_quiet (fail)
          go_wp2
          go_ret
          exact ⟨ret_bool (take_part zs ys k HE.out).symm, hd.drewN _⟩
        · have hn : (zs[k]?.getD 0 != ys[k]?.getD 0) = false := by simp [bne, he]
          have HE := Lib.hid he; clear he
          go_wp2
          go_quiet (fail)
          go_wp2
          go_roundw
          case rel => exact ⟨k + 1, by omega, by go_num, take_step zs ys k (by rw [H1.out]; omega) (by rw [G1.out]; omega) ht.out (by simpa using HE.out), hd.drewN _⟩
          case measure => simp [intOf]; omega
      · obtain rfl : k = len := by omega
        clear h4 g4
        go_wp2
        go_ret
        refine ⟨ret_bool ?_, hd⟩
        have := ht.out
        rw [List.take_of_length_le (by rw [H1.out]; omega), List.take_of_length_le (by rw [G1.out]; omega)] at this
        rw [this, eqB_self]
  · have hne : ((len : Int) != (len' : Int)) = true := by rw [bne_iff_ne]; omega
    have e : eqB zs ys = false := by
      simp only [eqB, decide_eq_false_iff_not]
      rintro rfl
      exact hl (h.1.symm.trans h'.1)
    rw [e]
    clear e h h' hl
    go_enter Try.func33, Try.ntmps33
    go_wp2
    go_ret
    exact ⟨rfl, Dr.refl _⟩

end Go.Proofs.Ytbcemgmfkddafaa

namespace Go.Proofs.Ytbcemgmfkddafaa
open Go.RowKit

theorem bool_info : (Try.prog.info? 4).map (fun i => (i.zero, i.size, i.bytes)) = some (some (.bool false), 1, 1) := by kernel_rfl

/-- What a row that is owned says to a reader. -/
theorem IsBools.of_owns {w : World} {base g len cap : Nat} {zs : List Bool} (h : w.ownsRow base 4 1 (.slice (some ⟨g, 0, none⟩) len cap) len (zs.map Value.bool)) (hl : len ≤ 1048600) : IsBools w (some ⟨g, 0, none⟩) len cap zs := by
  have hlen : zs.length = len := by have := h.1; simpa using this
  have hcap : len ≤ cap := by
    rcases h.2 with ⟨e, _⟩ | ⟨_, c, _, e, _, _, hc, _⟩
    · cases e
    · injection e with _ _ e3; omega
  refine ⟨hlen, hcap, hl, fun hp => ⟨g, 0, rfl, ?_, fun j hj => ?_⟩⟩
  · exact (h.lt g rfl).2
  · rw [Nat.zero_add, h.cellAt j (by omega)]
    simp [show j < zs.length from by omega]

/-- The first k of zs, then false ones: what toBoolS has written when k rounds are over. -/
def fillToB (zs : List Bool) (len k : Nat) : List Bool := zs.take k ++ List.replicate (len - k) false
theorem fillToB_step (zs : List Bool) (len k : Nat) (hz : zs.length = len) (hk : k < len) : ((fillToB zs len k).map Value.bool).set k (.bool (zs[k]?.getD false)) = (fillToB zs len (k + 1)).map Value.bool := by
  have e : len - k = (len - (k + 1)) + 1 := by omega
  unfold fillToB
  rw [e, List.replicate_succ, List.take_succ_eq_append_getElem (by omega)]
  have hl : ((zs.take k).map Value.bool).length = k := by simp; omega
  simp only [List.map_append, List.map_cons, List.append_assoc, List.cons_append, List.nil_append]
  rw [List.set_append_right _ _ (by omega), hl, Nat.sub_self, List.set_cons_zero]
  simp [show k < zs.length from by omega]
theorem fillToB_all (zs : List Bool) (len : Nat) (hz : zs.length = len) : fillToB zs len len = zs := by simp [fillToB, ← hz]

/-- Two lists of bools are equal. -/
def eqBB (zs ys : List Bool) : Bool := decide (zs = ys)
theorem eqBB_self (zs : List Bool) : eqBB zs zs = true := by simp [eqBB]
theorem take_stepB (zs ys : List Bool) (k : Nat) (hz : k < zs.length) (hy : k < ys.length) (h : zs.take k = ys.take k) (he : zs[k]?.getD false = ys[k]?.getD false) : zs.take (k + 1) = ys.take (k + 1) := by
  rw [List.take_succ_eq_append_getElem hz, List.take_succ_eq_append_getElem hy, h]
  simp [hz, hy] at he
  rw [he]
theorem take_partB (zs ys : List Bool) (k : Nat) (he : (zs[k]?.getD false == ys[k]?.getD false) = false) : eqBB zs ys = false := by
  simp only [eqBB, decide_eq_false_iff_not]
  rintro rfl
  simp at he

end Go.Proofs.Ytbcemgmfkddafaa

namespace Go.Proofs.Ytbcemgmfkddafaa
open Go.RowKit

theorem IsBools.of_owned {w : World} {base len cap : Nat} {a : Option Addr} {zs : List Bool} (h : w.ownsRow base 4 1 (.slice a len cap) len (zs.map Value.bool)) (hl : len ≤ 1048600) : IsBools w a len cap zs := by
  rcases h.2 with ⟨e, e0⟩ | ⟨g, c, _, e, _⟩
  · subst e0
    have hz : zs = [] := by have := h.1; simpa using this
    subst hz
    exact ⟨rfl, Nat.zero_le _, hl, fun hp => by omega⟩
  · injection e with e1 e2 e3
    subst e1
    exact IsBools.of_owns h hl

/-- Who has left, drawn: in memory of the call's own; the reader has gone on. -/
def DrawnLeft (R p : Nat) (w : World) (e : Ending) (w' : World) : Prop := ∃ (zs : List Bool) (a : Option Addr) (cap p' : Nat), e = .returned (.slice a zs.length cap) ∧ w'.ownsRow w.heap.size 4 1 (.slice a zs.length cap) zs.length (zs.map Value.bool) ∧ zs.length ≤ 10 ∧ Rd w' R p' ∧ p' ≤ p + 10 ∧ Step R w w'

end Go.Proofs.Ytbcemgmfkddafaa

namespace Go.Proofs.Ytbcemgmfkddafaa
open Go.RowKit

theorem Step.of_below {R : Nat} {w w' : World} (hb : Below w.heap.size w w') : Step R w w' := ⟨hb.os, hb.tape, hb.output, hb.size, fun k hk _ => hb.block k hk⟩

/-- A shorter part of a list that is owned. -/
theorem owns_part {w : World} {base g n cap k : Nat} {xs : List Value} {e : TypeId} (h : w.ownsRow base e 1 (.slice (some ⟨g, 0, none⟩) n cap) n xs) (hk : k ≤ n) : w.ownsRow base e 1 (.slice (some ⟨g, 0, none⟩) k cap) k (xs.take k) := by
  have hl := h.1
  refine ⟨by simp; omega, ?_⟩
  rcases h.2 with ⟨e0, _⟩ | ⟨g', c, cur, e1, h1, h2, h3, h4, h5, h6⟩
  · cases e0
  · injection e1 with e2 _ e3
    injection e2 with e2
    injection e2 with e2
    subst e2; subst e3
    refine .inr ⟨g, cap, cur, rfl, h1, h2, by omega, h4, h5, ?_⟩
    rw [← h6, List.take_take]; congr 1; omega

theorem owns_not {w w' : World} {R base n size : Nat} {e : TypeId} {v : Value} {xs : List Value} (h : w.ownsRow base e size v n xs) (hs : Step R w w') (hR : ∀ j, v.ownBlock = some j → j ≠ R) : w'.ownsRow base e size v n xs := by
  refine h.kept hs ?_
  cases hb : v.ownBlock with
  | none => exact .inl rfl
  | some k => right; intro e2; injection e2 with e3; exact hR k hb e3
/-- Lots that were drawn: in memory of the call's own; the reader has gone on. -/
def DrawnLots (R p : Nat) (w : World) (e : Ending) (w' : World) : Prop := ∃ (zs : List Int) (a : Option Addr) (cap p' : Nat), e = .returned (.slice a zs.length cap) ∧ w'.ownsRow w.heap.size 3 1 (.slice a zs.length cap) zs.length (zs.map (Value.int .i64)) ∧ zs.length ≤ 5 ∧ Rd w' R p' ∧ p' ≤ p + 10 ∧ Step R w w'

set_option maxRecDepth 100000 in
set_option maxHeartbeats 2000000 in
/-- **l91Lots**. -/
theorem l91Lots_any (R p : Nat) (n : Int) (w : World) (h : Rd w R p) (hp : p + 30 ≤ 1000000) :
    Calls Try.prog 65 #[.pointer (some ⟨R, 0, none⟩), .int .i64 n] w (DrawnLots R p w) := by
  have hRw := h.1
  have H0 := Lib.hid h; clear h
  go_enter Try.func65, Try.ntmps65
  go_wp2_with fail
  refine (pick_any R p 256 _ H0.out (by omega) (by omega) (by omega)).mono ?_
  rintro e w1 ⟨c, rfl, hc, hr1, hs1⟩
  have R1 := Lib.hid hr1
  have S1 := Lib.hid hs1
  clear H0 hr1 hs1
  obtain ⟨pl, hpl⟩ : ∃ pl, lotsI n ((c : Int) * 3) = pl := ⟨_, rfl⟩
  obtain ⟨ok, hok⟩ : ∃ ok, okLots n ((c : Int) * 3) = ok := ⟨_, rfl⟩
  have hp5 : pl.length ≤ 5 := by rw [← hpl]; exact lotsI_short _ _
  have hp1 : ok = true → 1 ≤ pl.length := fun e => by
    rw [e] at hok
    have := okLots_of hok
    have := lotsI_length hok
    rw [hpl] at this
    omega
  have HP := Lib.hid hpl
  have HK := Lib.hid hok
  have hp1 := Lib.hid hp1
  clear hpl hok
  go_wp2_with fail
  refine (specLotsOf_as _ _ pl ok _ HP.out HK.out).mono ?_
  rintro e w2 ⟨a2, c2, rfl, ho, hb⟩
  have R2 := Lib.hid (R1.out.below hb)
  have S2 := Lib.hid (S1.out.trans (Step.of_below hb))
  have O2 := Lib.hid (ho.mono S1.out.size)
  clear ho hb R1
  cases hk : ok
  · subst hk
    go_wp2
    go_ret
    exact ⟨pl, a2, c2, p + 1, rfl, O2.out, hp5, R2.out, by omega, S2.out⟩
  · subst hk
    have hp1 := hp1.out rfl
    go_wp2_with fail
    refine (pick_any R (p + 1) 24 _ R2.out (by omega) (by omega) (by omega)).mono ?_
    rintro e w3 ⟨d, rfl, hd, hr3, hs3⟩
    have R3 := Lib.hid hr3
    have O3 := Lib.hid (owns_step O2.out hs3 hRw)
    have S3 := Lib.hid (S2.out.trans hs3)
    clear hr3 hs3 R2 O2 S2 S1
    by_cases hd0 : 0 < d
    · have hdd : decide (0 < (d : Int)) = true := decide_eq_true (by omega)
      go_wp2
      go_ret
      exact ⟨pl, a2, c2, p + 1 + 1, rfl, O3.out, hp5, R3.out, by omega, S3.out⟩
    · have hdd : decide (0 < (d : Int)) = false := decide_eq_false (by omega)
      go_wp2_with fail
      refine (pick_any R (p + 1 + 1) (pl.length : Int) _ R3.out (by omega) (by omega) (by omega)).mono ?_
      rintro e w4 ⟨k, rfl, hk4, hr4, hs4⟩
      have R4 := Lib.hid hr4
      have O4 := Lib.hid (owns_step O3.out hs4 hRw)
      have S4 := Lib.hid (S3.out.trans hs4)
      clear hr4 hs4 R3 O3 S3
      have hkn : k < pl.length := by omega
      obtain ⟨g, rfl, hgw, hcap, hmx⟩ := owned_at O4.out (by omega)
      go_wp2_with fail
      refine (pick_any R (p + 1 + 1 + 1) 2 _ R4.out (by omega) (by omega) (by omega)).mono ?_
      rintro e w5 ⟨q, rfl, hq5, hr5, hs5⟩
      have R5 := Lib.hid hr5
      have O5 := Lib.hid (owns_step O4.out hs5 hRw)
      have S5 := Lib.hid (S4.out.trans hs5)
      clear hr5 hs5 R4 O4 S4
      cases hq0 : ((q : Int) == 0)
      · go_wp2_with fail
        refine (pick_any R (p + 1 + 1 + 1 + 1) 7 _ R5.out (by omega) (by omega) (by omega)).mono ?_
        rintro e w6 ⟨x, rfl, hx6, hr6, hs6⟩
        have R6 := Lib.hid hr6
        have O6 := Lib.hid (owns_step O5.out hs6 hRw)
        have S6 := Lib.hid (S5.out.trans hs6)
        clear hr6 hs6 R5 O5 S5
        have hgb := (O6.out.lt g rfl).1
        have hcell : w6.cell? ⟨g, k, none⟩ = some (.int .i64 (pl[k]?.getD 0)) := by rw [O6.out.cellAt k (by omega)]; simp [hkn]
        obtain ⟨z, hz⟩ : ∃ z, pl[k]?.getD 0 = z := ⟨_, rfl⟩
        rw [hz] at hcell
        have hfz := O6.out.frozenAt k
        have HS := Lib.hid (O6.out.stored k (.int .i64 ((x : Int) - 1)))
        have HR7 : Hid (Rd (w6.setCell ⟨g, k, none⟩ (.int .i64 ((x : Int) - 1))) R (p + 1 + 1 + 1 + 1 + 1)) := R6.out.grown (row := some g) ⟨rfl, rfl, rfl, by simp [World.setCell], fun i hi hne => Below.heap_setCell _ _ _ _ (fun e => hne (by rw [e]))⟩ (fun j ej => by injection ej with ej; omega)
        have HS7 : Hid (Step R w (w6.setCell ⟨g, k, none⟩ (.int .i64 ((x : Int) - 1)))) := S6.out.grown (row := some g) ⟨rfl, rfl, rfl, by simp [World.setCell], fun i hi hne => Below.heap_setCell _ _ _ _ (fun e => hne (by rw [e]))⟩ (fun j ej => by injection ej with ej; omega)
        clear hz
        go_wp2
        go_ret
        refine ⟨pl.set k ((x : Int) - 1), some ⟨g, 0, none⟩, c2, p + 1 + 1 + 1 + 1 + 1, by rw [List.length_set]; rfl, ?_, by rw [List.length_set]; exact hp5, HR7.out, by omega, HS7.out⟩
        rw [List.length_set, List.map_set]
        exact HS.out.1
      · go_wp2
        go_ret
        have hlt : (pl.take k).length = k := by simp; omega
        refine ⟨pl.take k, some ⟨g, 0, none⟩, c2, p + 1 + 1 + 1 + 1, by rw [hlt]; rfl, ?_, by rw [hlt]; omega, R5.out, by omega, S5.out⟩
        rw [hlt, List.map_take]
        exact owns_part O5.out (by omega)

/-- What the draw of lots says to its caller. -/
def DrawnL (w : World) (e : Ending) (w' : World) : Prop := ∃ (zs : List Int) (a : Option Addr) (cap : Nat), e = .returned (.slice a zs.length cap) ∧ w'.ownsRow w.heap.size 3 1 (.slice a zs.length cap) zs.length (zs.map (Value.int .i64)) ∧ zs.length ≤ 5 ∧ Below w.heap.size w w'

/-- What the draw of lots and of some candidates says to its caller. -/
def DrawnLF (w : World) (e : Ending) (w' : World) : Prop := ∃ (zs : List Int) (a : Option Addr) (cap : Nat) (L : List Bool) (a' : Option Addr) (cap' : Nat), e = .returned (.tuple #[.slice a zs.length cap, .slice a' L.length cap']) ∧ w'.ownsRow w.heap.size 3 1 (.slice a zs.length cap) zs.length (zs.map (Value.int .i64)) ∧ zs.length ≤ 5 ∧ w'.ownsRow w.heap.size 4 1 (.slice a' L.length cap') L.length (L.map Value.bool) ∧ L.length ≤ 10 ∧ Below w.heap.size w w'

end Go.Proofs.Ytbcemgmfkddafaa

namespace Go.Proofs.Ytbcemgmfkddafaa
open Go.RowKit

/-- -1, 999 or 1000. -/
def q3 (d : Nat) : Int := if d = 0 then -1 else if d = 1 then 999 else 1000
theorem q3_at (d : Nat) (h : d < 3) : (#[Value.int .i64 (-1), .int .i64 999, .int .i64 1000] : Array Value)[d]? = some (.int .i64 (q3 d)) := by
  have e : d = 0 ∨ d = 1 ∨ d = 2 := by omega
  rcases e with rfl | rfl | rfl <;> rfl
theorem q3_cell (w : World) (t : TypeId) (d : Nat) (h : d < 3) : (w.alloc (.cells #[.int .i64 (-1), .int .i64 999, .int .i64 1000] t)).cell? ⟨w.heap.size, d, none⟩ = some (.int .i64 (q3 d)) :=
  (World.cell?_alloc_mark w _ t (0, 0) d).trans (q3_at d h)
theorem q3_range (d : Nat) : -1 ≤ q3 d ∧ q3 d ≤ 1000 := by
  unfold q3
  by_cases h0 : d = 0
  · rw [if_pos h0]; omega
  · rw [if_neg h0]
    by_cases h1 : d = 1
    · rw [if_pos h1]; omega
    · rw [if_neg h1]; omega
theorem step_cell {R : Nat} {w w' : World} (h : Step R w w') {b o : Nat} {v : Value} (hb : b < w.heap.size) (hR : b ≠ R) (hc : w.cell? ⟨b, o, none⟩ = some v) : w'.cell? ⟨b, o, none⟩ = some v :=
  (World.cell?_of_block (h.block b hb (fun e => hR (by injection e)))).trans hc

theorem arr_step {R : Nat} {w w' : World} {t : TypeId} (hs : Step R (w.alloc (.cells #[.int .i64 (-1), .int .i64 999, .int .i64 1000] t)) w') (hR : w.heap.size ≠ R) {d : Nat} (hd : d < 3) : w'.cell? ⟨w.heap.size, d, none⟩ = some (.int .i64 (q3 d)) :=
  step_cell hs (by simp) hR (q3_cell w t d hd)
theorem arr_step_drew {R : Nat} {w w' : World} {t : TypeId} (hs : Step R (w.alloc (.cells #[.int .i64 (-1), .int .i64 999, .int .i64 1000] t)).drew w') (hR : w.heap.size ≠ R) : ∀ d, d < 3 → w'.cell? ⟨w.heap.size, d, none⟩ = some (.int .i64 (q3 d)) := fun _ hd => arr_step (Step.of_drew hs) hR hd
theorem step_over {R : Nat} {w w' : World} {o : Obj} (hs : Step R (w.alloc o).drew w') : Step R w w' := ((Step.refl R w).alloc o).trans (Step.of_drew hs)
theorem step_on {R : Nat} {w v w' : World} {o : Obj} (h : Step R w v) (hs : Step R (v.alloc o) w') : Step R w w' := (h.alloc o).trans hs
theorem le_alloc (w : World) (o : Obj) : w.heap.size ≤ (w.alloc o).heap.size := by simp
theorem step_under {R : Nat} {w w' : World} {o : Obj} (hs : Step R (w.alloc o) w') : Step R w w' := ((Step.refl R w).alloc o).trans hs
theorem step_on2 {R : Nat} {w v w' : World} {o o' : Obj} (h : Step R w v) (hs : Step R ((v.alloc o).alloc o') w') : Step R w w' := ((h.alloc o).alloc o').trans hs
theorem step_over2 {R : Nat} {w w' : World} {o o' : Obj} (hs : Step R ((w.alloc o).alloc o').drew w') : Step R w w' := (((Step.refl R w).alloc o).alloc o').trans (Step.of_drew hs)
theorem old2_lt {R : Nat} {w w' : World} {o o' : Obj} (h : Step R ((w.alloc o).alloc o').drew w') : w.heap.size < w'.heap.size := by have := h.size; simp at this; omega
theorem old3_lt {R : Nat} {w w' : World} {o o' : Obj} (h : Step R ((w.alloc o).alloc o').drew w') : w.heap.size + 1 < w'.heap.size := by have := h.size; simp at this; omega
theorem new_not1 {R : Nat} {w w' : World} (h : Step R w w') (hR : R < w.heap.size) : w'.heap.size + 1 ≠ R := by have := h.size; omega
theorem arr_step2 {R : Nat} {w w' : World} {t : TypeId} {o : Obj} (hs : Step R ((w.alloc (.cells #[.int .i64 (-1), .int .i64 999, .int .i64 1000] t)).alloc o) w') (hR : w.heap.size ≠ R) {d : Nat} (hd : d < 3) : w'.cell? ⟨w.heap.size, d, none⟩ = some (.int .i64 (q3 d)) :=
  arr_step (step_under hs) hR hd
theorem arr_step3 {R : Nat} {w w' : World} {t : TypeId} {o : Obj} (hs : Step R ((w.alloc o).alloc (.cells #[.int .i64 (-1), .int .i64 999, .int .i64 1000] t)) w') (hR : w.heap.size + 1 ≠ R) {d : Nat} (hd : d < 3) : w'.cell? ⟨w.heap.size + 1, d, none⟩ = some (.int .i64 (q3 d)) := by
  have h := arr_step hs (by rw [World.size_alloc]; exact hR) hd
  rwa [World.size_alloc] at h
theorem arr2_drew {R : Nat} {w w' : World} {t : TypeId} {o : Obj} (hs : Step R ((w.alloc (.cells #[.int .i64 (-1), .int .i64 999, .int .i64 1000] t)).alloc o).drew w') (hR : w.heap.size ≠ R) : ∀ d, d < 3 → w'.cell? ⟨w.heap.size, d, none⟩ = some (.int .i64 (q3 d)) := fun _ hd => arr_step2 (Step.of_drew hs) hR hd
theorem arr3_drew {R : Nat} {w w' : World} {t : TypeId} {o : Obj} (hs : Step R ((w.alloc o).alloc (.cells #[.int .i64 (-1), .int .i64 999, .int .i64 1000] t)).drew w') (hR : w.heap.size + 1 ≠ R) : ∀ d, d < 3 → w'.cell? ⟨w.heap.size + 1, d, none⟩ = some (.int .i64 (q3 d)) := fun _ hd => arr_step3 (Step.of_drew hs) hR hd
theorem q3_cell2 (w : World) (t : TypeId) (o : Obj) (d : Nat) (h : d < 3) : ((w.alloc o).alloc (.cells #[.int .i64 (-1), .int .i64 999, .int .i64 1000] t)).cell? ⟨w.heap.size + 1, d, none⟩ = some (.int .i64 (q3 d)) := by
  have := q3_cell (w.alloc o) t d h
  rwa [World.size_alloc] at this
theorem alloc_lt {R : Nat} {w w' : World} {o : Obj} (h : Step R (w.alloc o) w') : w.heap.size < w'.heap.size := by have := h.size; simp at this; omega
theorem q3_get (d : Nat) (h : d < 3) : ([Value.int .i64 (-1), .int .i64 999, .int .i64 1000] : List Value)[d]? = some (.int .i64 (q3 d)) := by
  have e : d = 0 ∨ d = 1 ∨ d = 2 := by omega
  rcases e with rfl | rfl | rfl <;> rfl
theorem lt_three {d : Nat} (h : (d : Int) < 3) : d < 3 := by omega
theorem new_not {R : Nat} {w w' : World} (h : Step R w w') (hR : R < w.heap.size) : w'.heap.size ≠ R := by have := h.size; omega
theorem old_lt {R : Nat} {w w' : World} {o : Obj} (h : Step R (w.alloc o).drew w') : w.heap.size < w'.heap.size := by have := h.size; simp at this; omega

/-- What the draw of two numbers says to its caller. -/
def DrawnNums (w : World) (e : Ending) (w' : World) : Prop := ∃ x y : Int, e = .returned (.tuple #[.int .i64 x, .int .i64 y]) ∧ (-1 ≤ x ∧ x ≤ 1000) ∧ (-1 ≤ y ∧ y ≤ 1000) ∧ Below w.heap.size w w'

end Go.Proofs.Ytbcemgmfkddafaa
