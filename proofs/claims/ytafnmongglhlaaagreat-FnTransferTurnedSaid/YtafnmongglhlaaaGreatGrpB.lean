/-
  spec.BallotText and impl.BallotText answer alike: for every ballot of at most 1048600 ints; neither writes into memory that was there.
  impl.turnedText and spec.l3Turn: two candidates of a ballot are exchanged.
  impl.PilesTurn: for lists of piles with texts of at most 1048600 bytes; what it returns is memory of its own.
  spec.l3Turn and spec.PilesTurn: for lists of piles with texts of at most 1048600 bytes; what they return is memory of their own.
  What the drawn statements of piles share.
-/
import Derived.Test.YtafnmongglhlaaaGreatGrp3
import Derived.Test.YtafnmongglhlaaaGreatGrp2
import Derived.Test.YtafnmongglhlaaaGreatGrp4
import Derived.Test.YtafnmongglhlaaaGreatGrpA
import Derived.Deep.RegionHeld3
import Derived.Test.YtafnmongglhlaaaGreatGrp5
import Derived.Deep.RegionWith
namespace Go.Proofs.YtafnmongglhlaaaGreat
open Go.RowKit Go.Shelf

attribute [local go_sem] Oper.semAt_some

set_option maxRecDepth 100000 in
set_option maxHeartbeats 2000000 in
/-- **impl.BallotText**, at a valid ballot. -/
theorem implText_yes (a : Option Addr) (len cap : Nat) (zs : List Int) (w : World) (h : IsInts w a len cap zs) (hv : validB zs 5 = true) :
    CallsIn Fence.wide 8 Tryz.prog 52 #[.slice a len cap] w fun e w' => e = .returned (.string (txtOf zs)) ∧ Below w.heap.size w w' := by
  have hro : Fence.wide.round = none := rfl
  have HR := Lib.hid (vB_mem hv).2.2
  obtain ⟨i0, hi, hz0, hz1, hz2⟩ := info_parts byte_info
  have hm := h.2.2.1
  have H := Lib.hid h; clear h
  refine callsIn_of_wp_marks Tryz.func52 rfl trivial ?_ hro
  simp only [Tryz.ntmps52, List.size_toArray, List.length_cons, List.length_nil, Nat.reduceAdd, Nat.reduceSub, Array.replicate_succ, Array.replicate_zero, List.push_toArray, List.append_toArray, List.nil_append, List.cons_append]
  gi_wp2
  refine ⟨trivial, ?_⟩
  gi_at_call 54
  refine (implValid_wide _ _ _ _ zs _ _ H.out).mono ?_
  rintro e w1 ⟨rfl, hb1⟩
  have hsz : w.heap.size ≤ w1.heap.size := hb1.size
  gi_wp2_with (gi_at_make; refine wpListIn_make_own _ rfl _ _ 22 rfl w1.heap.size 5 i0 (.int .u8 0) 1 Tryz.underlying22 hi hz0 hz1 .i64 .i64 _ 5 rfl rfl rfl (by rw [hz2]; omega) (by unfold maxLen; omega) (Nat.le_refl _) ?_; intro w2 hown hgrow)
  have hB2 : Below w1.heap.size w1 w2 := (Below.refl _ w1).grown hgrow (Nat.le_refl _) (fun k e => by cases e)
  have hsz2 : w1.heap.size ≤ w2.heap.size := hgrow.size
  have HOWN := Lib.hid hown; clear hown hgrow
  gi_wp2
  refine ⟨trivial, ?_⟩
  gi_at_call 88
  refine (candidates_in Fence.wide _ (by omega) trivial trivial hro _ _ _ _).mono ?_
  rintro e w' ⟨rfl, rfl⟩
  gi_wp2
  have bO := (Boxed.new w2 22 (.slice (some ⟨w1.heap.size, 0, none⟩) 0 5)).alloc (.cells #[.slice a len cap] 24)
  have bV := Boxed.new (w2.alloc (.cells #[.slice (some ⟨w1.heap.size, 0, none⟩) 0 5] 22)) 24 (.slice a len cap)
  rw [World.size_alloc] at bV
  have hB3 : Below w1.heap.size w1 ((w2.alloc (.cells #[.slice (some ⟨w1.heap.size, 0, none⟩) 0 5] 22)).alloc (.cells #[.slice a len cap] 24)) := (hB2.alloc hsz2 _).alloc (by simp; omega) _
  refine wpIn_rangeFunc_ownG hro (by omega) (gf := 150) (lb := #[.pointer (some ⟨w2.heap.size + 1, 0, none⟩)]) rfl trivial (enters_of Tryz.func150 (by kernel_rfl) rfl)
    (values_stops_g (fun z : C5 => z.1) (zs.pmap Subtype.mk HR.out) Fence.wide 7 trivial hro (by omega) (w2.heap.size + 1) a len cap zs (by simp [List.map_pmap]) w1 _ (by simp) hB3 bV.cell (H.out.below hb1)) belowK_t (belowK_b (by simp; omega)) (Below.refl _ _) (fun _ => rfl)
    (fun pre W => (∃ v, Boxed W w2.heap.size 22 v ∧ W.ownsRow w1.heap.size 5 1 v pre.length (pre.map fun z => Value.int .u8 (97 + z.1)) ∧ (∃ g cap, v = .slice (some ⟨g, 0, none⟩) pre.length cap)) ∧ Below w1.heap.size w1 W)
    (fun _ _ _ => False)
    (OwnFrom.and (Own.from (holdsRow_own w1.heap.size w2.heap.size 22 5 1 (fun (pre : List C5) => pre.length) (fun (pre : List C5) => pre.map fun z => Value.int .u8 (97 + z.1)) (fun (pre : List C5) v => ∃ g cap, v = .slice (some ⟨g, 0, none⟩) pre.length cap)) _) (ownFrom_below (Nat.le_refl _) (by simp; omega)))
    (fun _ _ _ _ _ hs _ _ => hs)
    ⟨⟨_, bO, (HOWN.out.alloc _).alloc _, ⟨_, _, rfl⟩⟩, hB3⟩
    (fun z => { tmps := #[.slice a len cap, undef, .string ⟨#[]⟩, .pointer (some ⟨w2.heap.size, 0, none⟩), .int .i64 z.1, .slice a len cap, .bool true, .bool false, .slice (some ⟨w1.heap.size, 0, none⟩) 0 5, .slice a len cap,
      .func (.func 150) #[] #[.pointer (some ⟨w2.heap.size + 1, 0, none⟩)], .int .i64 z.1, undef, undef, undef, undef, undef, undef, undef, undef], defers := [] }) ?assign ?body ?done ?stop
  case assign =>
    intro l z W K hK
    gi_wp2
    exact hK
  case body =>
    rintro l pre ⟨z, hz0', hz5⟩ W ⟨⟨v, hv, hrow, hnil⟩, hB⟩ hlt
    have hc := hv.cell
    have HN := Lib.hid hnil; clear hnil
    gi_wp2_with (gi_at_builtin; refine wpListIn_append_own _ rfl _ _ 22 rfl w1.heap.size 5 i0 (.int .u8 0) 1 1 Tryz.underlying22 hi hz0 hz1 hz2 rfl (by decide) _ _ _ rfl (hrow.alloc _) ⟨W.heap.size, 0, none⟩ 1 1 [.int .u8 (97 + z)] rfl rfl (cell_one_new _ _ _) (by simp [Value.oneCell']) (by unfold maxLen; omega) (by omega) (by have := hB.size; simp; omega) ?_; intro v' w3 hown' hgrow _; obtain ⟨g', cap', rfl⟩ := ownsRow_succ hown'; obtain ⟨hv1, hv2, hr2, hk2, hb2⟩ := hv.appended (by decide) hrow hB.size (by omega) hown' hgrow; have hc1 := hv1.cell; have hf1 := hv1.frozen)
    exact ⟨hk2.from _, hb2, ⟨_, hv2, by simpa using hr2, ⟨g', cap', by simp⟩⟩, hB.trans hb2⟩
  case done =>
    rintro D ys W hD hys ⟨⟨v, hv, hrow, ⟨g, cp, rfl⟩⟩, hB⟩ hK
    have hyl : ys.length = len := by rw [hys]; simp [H.out.1]
    have hym : (ys.map fun z => Value.int .u8 (97 + z.1)) = (zs.map fun z => 97 + z).map (Value.int .u8) := by rw [hys]; simp [List.map_pmap]
    rw [hym, hyl] at hrow
    rw [hyl] at hv
    clear hyl hym hys
    have hc := hv.cell
    have hconv := run_convert_bytes_arg (P := Tryz.prog) W 22 5 Tryz.underlying22 Tryz.underlying5 g 0 len cp (zs.map fun z => 97 + z) (by simp [H.out.1]) (fun i hi => by
      rw [Nat.zero_add, hrow.cellAt i (by omega)]
      simp [show i < zs.length from by rw [H.out.1]; exact hi]) 9 Tryz.underlying9
    gi_wp2
    refine ⟨by simp, .inl ⟨_, _, rfl, run_takeDeferred hK, ?_⟩⟩
    exact ⟨_, results_tmp rfl _ _ _, rfl, hb1.trans ((hB.trans (belowK_b (w := w1) (Nat.le_refl _) W D _ _ (by simp at hD; omega) hK rfl rfl)).mono hsz)⟩
  case stop =>
    rintro D c pre W _ _ h _
    exact h.elim

set_option maxRecDepth 100000 in
set_option maxHeartbeats 1000000 in
/-- **impl.BallotText** answers as the model does. -/
theorem implText_any (a : Option Addr) (len cap : Nat) (zs : List Int) (w : World) (h : IsInts w a len cap zs) :
    Calls Tryz.prog 52 #[.slice a len cap] w fun e w' => e = .returned (.string (txtB zs)) ∧ Below w.heap.size w w' := by
  refine (callsIn_wide (n := 8)).1 ?_
  cases hv : validB zs 5
  · have e : Hid (txtB zs = ByteArray.empty) := by simp [Hid, txtB, hv]
    have H := Lib.hid h; clear h
    refine callsIn_of_wp Tryz.func52 rfl trivial ?_ rfl
    simp only [Tryz.ntmps52, List.size_toArray, List.length_cons, List.length_nil, Nat.reduceAdd, Nat.reduceSub, Array.replicate_succ, Array.replicate_zero, List.push_toArray, List.append_toArray, List.nil_append, List.cons_append]
    gi_wp2
    refine ⟨trivial, ?_⟩
    gi_at_call 54
    refine (implValid_wide _ _ _ _ zs _ _ H.out).mono ?_
    rintro e1 w1 ⟨rfl, hb1⟩
    gi_wp2
    go_ret
    exact ⟨ret_str e.out.symm, hb1⟩
  · rw [show txtB zs = txtOf zs from by simp [txtB, hv]]
    exact implText_yes a len cap zs w h hv

end Go.Proofs.YtafnmongglhlaaaGreat

namespace Go.Proofs.YtafnmongglhlaaaGreat
open Go.RowKit

/-- The first k are exchanged. -/
def mixed (x y : Int) (zs : List Int) (k : Nat) : List Int := (zs.take k).map (swapC x y) ++ zs.drop k
theorem mixed_zero (x y : Int) (zs : List Int) : mixed x y zs 0 = zs := by simp [mixed]
theorem mixed_all (x y : Int) (zs : List Int) : mixed x y zs zs.length = turnB x y zs := by simp [mixed, turnB]
theorem mixed_length (x y : Int) (zs : List Int) (k : Nat) (hk : k ≤ zs.length) : (mixed x y zs k).length = zs.length := by simp [mixed]; omega
theorem mixed_at (x y : Int) (zs : List Int) (k : Nat) (hk : k < zs.length) : (mixed x y zs k)[k]?.getD 0 = zs[k]?.getD 0 := by
  unfold mixed
  rw [List.getElem?_append_right (by simp; omega)]
  simp [show min k zs.length = k by omega]
theorem mixed_step (x y : Int) (zs : List Int) (k : Nat) (hk : k < zs.length) {z : Int} (hz : zs[k]?.getD 0 = z) : ((mixed x y zs k).map (Value.int .i64)).set k (.int .i64 (swapC x y z)) = (mixed x y zs (k + 1)).map (Value.int .i64) := by
  have e : zs[k] = z := by rw [← hz]; simp [hk]
  unfold mixed
  rw [List.take_succ_eq_append_getElem hk, List.drop_eq_getElem_cons hk, e]
  simp only [List.map_append, List.map_cons, List.map_nil, List.append_assoc, List.cons_append, List.nil_append]
  rw [List.set_append_right _ _ (by simp; omega)]
  simp [show min k zs.length = k by omega]
theorem mixed_keep (x y : Int) (zs : List Int) (k : Nat) (hk : k < zs.length) {z : Int} (hz : zs[k]?.getD 0 = z) (he : swapC x y z = z) : mixed x y zs k = mixed x y zs (k + 1) := by
  have e : zs[k] = z := by rw [← hz]; simp [hk]
  unfold mixed
  rw [List.take_succ_eq_append_getElem hk, List.drop_eq_getElem_cons hk, e]
  simp [he]

set_option maxRecDepth 100000 in
set_option maxHeartbeats 4000000 in
/-- **impl.turnedText**. -/
theorem turnedText_as (t : ByteArray) (x y : Int) (t' : ByteArray) (w : World) (hs : t.size ≤ 1048600) (ht : turnT x y t = t') :
    Calls Tryz.prog 25 #[.string t, .int .i64 x, .int .i64 y] w fun e w' => e = .returned (.string t') ∧ Below w.heap.size w w' := by
  obtain ⟨zs, hzs⟩ : ∃ zs, parseL t = zs := ⟨_, rfl⟩
  obtain ⟨ok, hok⟩ : ∃ ok, validB (nums t) 5 = ok := ⟨_, rfl⟩
  have hl5 : zs.length ≤ 5 := by rw [← hzs]; exact parseL_short t
  have HT : Hid (txtB (turnB x y zs) = t') := by rw [Hid, ← ht, ← hzs]; rfl
  have HZ := Lib.hid hzs
  have HOK := Lib.hid hok
  obtain ⟨G, hG⟩ : ∃ G, w.heap.size = G := ⟨_, rfl⟩
  clear hzs hok ht
  go_enter Tryz.func25, Tryz.ntmps25
  go_wp2_with fail
  refine (implParse_as t zs ok _ hs HZ.out HOK.out).mono ?_
  rintro e w1 ⟨a, cap, rfl, ho, hb⟩
  rw [hG] at ho
  have HO := Lib.hid ho
  have HB := Lib.hid (hG ▸ hb)
  clear ho hb
  go_wp2
  go_loopw [18] (fun i wr => ∃ k : Nat, k ≤ zs.length ∧ i = .int .i64 k ∧ Hid (wr.ownsRow G 3 1 (.slice a zs.length cap) zs.length ((mixed x y zs k).map (Value.int .i64))) ∧ Below G w wr) (fun i _ => zs.length - (intOf i).toNat)
  case atStart => exact ⟨0, Nat.zero_le _, rfl, by rw [mixed_zero]; exact HO, HB.out⟩
  case round =>
    obtain ⟨k, hk, rfl, ho, hB⟩ := hrel
    by_cases hlt : k < zs.length
    · obtain ⟨g, rfl⟩ : ∃ g, a = some ⟨g, 0, none⟩ := by
        rcases ho.out.2 with ⟨_, e0⟩ | ⟨g, c, _, e, _, _⟩
        · omega
        · injection e with e1 _ _; exact ⟨g, e1⟩
      obtain ⟨z, hz⟩ : ∃ z, zs[k]?.getD 0 = z := ⟨_, rfl⟩
      have hc : wr.cell? ⟨g, k, none⟩ = some (.int .i64 z) := by
        rw [ho.out.cellAt k (by omega)]
        have hl : k < (mixed x y zs k).length := by rw [mixed_length x y zs k hk]; exact hlt
        have := mixed_at x y zs k hlt
        rw [hz] at this
        simp [hl] at this ⊢
        exact this
      have hf := ho.out.frozenAt k
      have hgG : G ≤ g := (ho.out.lt g rfl).1
      have hGw : G ≤ wr.heap.size := by have := hB.size; rw [hG] at this; exact this
      have HS := Lib.hid (ho.out.stored k (.int .i64 (swapC x y z)))
      have HST := Lib.hid (mixed_step x y zs k hlt hz)
      have HKP : Hid (swapC x y z = z → mixed x y zs k = mixed x y zs (k + 1)) := fun he => mixed_keep x y zs k hlt hz he
      clear hz
      rcases Decidable.em (z = x) with e1 | e1
      · have hw : Hid (swapC x y z = y) := by simp [Hid, swapC, e1]
        rw [hw.out] at HS HST
        have he1 : (z == x) = true := by simp [e1]
        clear HKP hw e1
        go_wp2
        go_roundw
        case rel => exact ⟨k + 1, by omega, by go_num, by unfold Hid; rw [← HST.out]; exact HS.out.1, hB.grown HS.out.2 hGw (fun i ei => by cases ei; exact hgG)⟩
        case measure => simp [intOf]; omega
      · have he1 : (z == x) = false := by simp [e1]
        rcases Decidable.em (z = y) with e2 | e2
        · have hw : Hid (swapC x y z = x) := by simp [Hid, swapC, e2]
          rw [hw.out] at HS HST
          have he2 : (z == y) = true := by simp [e2]
          clear HKP hw e1 e2
          go_wp2
          go_roundw
          case rel => exact ⟨k + 1, by omega, by go_num, by unfold Hid; rw [← HST.out]; exact HS.out.1, hB.grown HS.out.2 hGw (fun i ei => by cases ei; exact hgG)⟩
          case measure => simp [intOf]; omega
        · have hw : swapC x y z = z := by simp [swapC, e1, e2]
          have HK := Lib.hid (HKP.out hw)
          have he2 : (z == y) = false := by simp [e2]
          clear HKP hw e1 e2 HS HST
          go_wp2
          go_roundw
          case rel => exact ⟨k + 1, by omega, by go_num, by rw [← HK.out]; exact ho, hB⟩
          case measure => simp [intOf]; omega
    · obtain ⟨n, hn⟩ : ∃ n, zs.length = n := ⟨_, rfl⟩
      obtain rfl : k = zs.length := by omega
      rw [mixed_all] at ho
      have hlt2 : (turnB x y zs).length = zs.length := by simp [turnB]
      have I := Lib.hid (IsInts.of_owned ho.out (by omega))
      have HL := Lib.hid hlt2
      have hBw : Below w.heap.size w wr := hG.symm ▸ hB
      clear ho hlt2 hlt hn
      go_wp2_with fail
      refine (implText_any _ zs.length cap (turnB x y zs) _ I.out).mono ?_
      rintro e w2 ⟨he, hb2⟩
      rw [HT.out] at he
      subst he
      go_wp2
      go_ret
      exact ⟨rfl, hBw.trans (hb2.mono hBw.size)⟩

end Go.Proofs.YtafnmongglhlaaaGreat

namespace Go.Proofs.YtafnmongglhlaaaGreat
open Go.RowKit Go.Maps

theorem Below.grownBy {w w' : World} (h : Below w.heap.size w w') : w.grownBy w' none := ⟨h.os, h.tape, h.output, h.size, fun k hk _ => h.block k hk⟩
/-- The piles, each with its text exchanged. -/
def tps (x y : Int) (ps : List Pl) : List Pl := ps.map fun p => (turnT x y p.1, p.2)
theorem tps_length (x y : Int) (ps : List Pl) : (tps x y ps).length = ps.length := by simp [tps]
theorem tAt_tps {x y : Int} {ps : List Pl} {k : Nat} (h : k < ps.length) : tAt (tps x y ps) k = turnT x y (tAt ps k) := by simp [tAt, tps, h]
theorem mAt_tps {x y : Int} {ps : List Pl} {k : Nat} (h : k < ps.length) : mAt (tps x y ps) k = mAt ps k := by simp [mAt, tps, h]
theorem mem_at {ps : List Pl} {k : Nat} (h : k < ps.length) : (tAt ps k, mAt ps k) ∈ ps := by
  have e : (tAt ps k, mAt ps k) = ps[k] := by simp [tAt, mAt, h]
  rw [e]; exact List.getElem_mem h
theorem tps_new {x y : Int} (hx : 0 ≤ x ∧ x ≤ 4) (hy : 0 ≤ y ∧ y ≤ 4) {ps : List Pl} (hv : pilesB ps = true) {k : Nat} (hk : k < ps.length) : ¬ ∃ p ∈ (tps x y ps).take k, p.1 = tAt (tps x y ps) k := by
  rintro ⟨p, hp, e⟩
  obtain ⟨i, hi, rfl⟩ := List.mem_iff_getElem.1 hp
  have hik : i < k := by have := hi; rw [List.length_take, tps_length] at this; omega
  have hil : i < ps.length := by omega
  have pv := pilesB_pos hv
  rw [tAt_tps hk] at e
  have e1 : ((tps x y ps).take k)[i].1 = turnT x y (tAt ps i) := by simp [tps, tAt, hil]
  rw [e1] at e
  have v1 := pv.2.2.2.1 _ (mem_at hil)
  have v2 := pv.2.2.2.1 _ (mem_at hk)
  have w1 := turnT_twice hx hy v1
  have w2 := turnT_twice hx hy v2
  have e2 : tAt ps i = tAt ps k := by
    have : turnT x y (turnT x y (tAt ps i)) = turnT x y (turnT x y (tAt ps k)) := by rw [e]
    exact w1.symm.trans (this.trans w2)
  exact tl_ne (asc_at pv.1 hik hk) e2
theorem txtB_short (zs : List Int) : (txtB zs).size ≤ zs.length := by
  unfold txtB
  split
  · rw [txtOf_size]; exact Nat.le_refl _
  · exact Nat.zero_le _
theorem turnT_short (x y : Int) (t : ByteArray) : (turnT x y t).size ≤ 5 := by
  refine Nat.le_trans (txtB_short _) ?_
  simp only [turnB, List.length_map]
  exact parseL_short t
theorem tps_pos {x y : Int} {ps : List Pl} (hv : pilesB ps = true) : ∀ p ∈ tps x y ps, 1 ≤ p.2 := fun p hp => by
  obtain ⟨q, hq, rfl⟩ := List.mem_map.1 hp
  exact (pilesB_pos hv).2.1 q hq
theorem turned_eq {x y : Int} {ts ps : List Pl} (h : Asc ts ∧ (∀ u, tot ts u = tot (tps x y ps) u) ∧ ∀ q ∈ ts, ∃ p ∈ tps x y ps, p.1 = q.1) (hv : pilesB ps = true) : ts = turnPs x y ps := by
  refine piles_ext h.1 (turnPs_asc x y ps) (fun q hq => ?_) (turnPs_pos (pilesB_pos hv).2.1) (fun u => ?_)
  · rw [← tot_mem h.1 q hq, h.2.1]; exact tot_pos (tps_pos hv) (h.2.2 q hq)
  · rw [h.2.1]; unfold turnPs; rw [tot_merge, tot_zero, Int.zero_add]; rfl

set_option maxRecDepth 100000 in
set_option maxHeartbeats 8000000 in
/-- **impl.PilesTurn** answers as canL does. -/
theorem implTurn_as (a1 : Option Addr) (la ca : Nat) (ps : List Pl) (x y : Int) (r : List Pl) (ok : Bool) (w : World) (h : IsPiles w a1 la ca ps) (hs : Small ps) (hr : canL ps x y = r) (hok : canB ps x y = ok) :
    Calls Tryz.prog 9 #[.slice a1 la ca, .int .i64 x, .int .i64 y] w (GaveP w r ok) := by
  have HI := Lib.hid h
  have HS := Lib.hid hs
  have HR := Lib.hid hr
  have HOK := Lib.hid hok
  have H1 := Lib.hid h.1
  obtain ⟨G, hG⟩ : ∃ G, w.heap.size = G := ⟨_, rfl⟩
  clear h hs hr hok
  cases hc : canB ps x y
  · have e : Hid (ok = false) := by rw [Hid, ← HOK.out, hc]
    have e2 : Hid (r = []) := by rw [Hid, ← HR.out, canL, hc]; rfl
    obtain ⟨v, hv⟩ : ∃ v, pilesB ps = v := ⟨_, rfl⟩
    have HV := Lib.hid hv
    have hno : v = true → x < 0 ∨ 4 < x ∨ y < 0 ∨ 4 < y := fun hh => by
      rcases Int.lt_or_le x 0 with g | g
      · exact .inl g
      · rcases Int.lt_or_le 4 x with g2 | g2
        · exact .inr (.inl g2)
        · rcases Int.lt_or_le y 0 with g3 | g3
          · exact .inr (.inr (.inl g3))
          · rcases Int.lt_or_le 4 y with g4 | g4
            · exact .inr (.inr (.inr g4))
            · have := (canB_iff ps x y).2 ⟨by rw [hv, hh], ⟨g, g2⟩, ⟨g3, g4⟩⟩
              rw [this] at hc; cases hc
    clear hv hc
    go_enter Tryz.func9, Tryz.ntmps9
    go_wp2_with fail
    refine (implPiles_as _ la ca ps v _ HI.out HS.out HV.out).mono ?_
    rintro e1 w1 ⟨rfl, hb1⟩
    cases v
    · go_wp2
      go_ret2
      refine ⟨none, 0, by rw [e.out, e2.out]; rfl, by rw [e2.out]; exact World.ownsRow_nil _ _ _ _, hb1, fun hh => by rw [e.out] at hh; cases hh⟩
    · rcases Int.lt_or_le x 0 with g | g
      · have d1 : decide (x < 0) = true := decide_eq_true g
        go_wp2
        go_ret2
        refine ⟨none, 0, by rw [e.out, e2.out]; rfl, by rw [e2.out]; exact World.ownsRow_nil _ _ _ _, hb1, fun hh => by rw [e.out] at hh; cases hh⟩
      · have d1 : decide (x < 0) = false := decide_eq_false (by omega)
        rcases Int.lt_or_le 4 x with g2 | g2
        · have d2 : decide ((5 : Int) ≤ x) = true := decide_eq_true (by omega)
          go_wp2
          go_ret2
          refine ⟨none, 0, by rw [e.out, e2.out]; rfl, by rw [e2.out]; exact World.ownsRow_nil _ _ _ _, hb1, fun hh => by rw [e.out] at hh; cases hh⟩
        · have d2 : decide ((5 : Int) ≤ x) = false := decide_eq_false (by omega)
          rcases Int.lt_or_le y 0 with g3 | g3
          · have d3 : decide (y < 0) = true := decide_eq_true g3
            go_wp2
            go_ret2
            refine ⟨none, 0, by rw [e.out, e2.out]; rfl, by rw [e2.out]; exact World.ownsRow_nil _ _ _ _, hb1, fun hh => by rw [e.out] at hh; cases hh⟩
          · have d3 : decide (y < 0) = false := decide_eq_false (by omega)
            have hy5 : (4 : Int) < y := by have := hno rfl; omega
            have d4 : decide ((5 : Int) ≤ y) = true := decide_eq_true (by omega)
            go_wp2
            go_ret2
            refine ⟨none, 0, by rw [e.out, e2.out]; rfl, by rw [e2.out]; exact World.ownsRow_nil _ _ _ _, hb1, fun hh => by rw [e.out] at hh; cases hh⟩
  · have e : Hid (ok = true) := by rw [Hid, ← HOK.out, hc]
    have e2 : Hid (r = turnPs x y ps) := by rw [Hid, ← HR.out, canL, hc]; rfl
    obtain ⟨hv, hx, hy⟩ := (canB_iff ps x y).1 hc
    have HV := Lib.hid hv
    have hla : la ≤ 12 := by have := (pilesB_pos hv).2.2.2.2; rw [H1.out] at this; exact this
    have HMB := Lib.hid (mAt_valid hv)
    have d1 : decide (x < 0) = false := decide_eq_false (by omega)
    have d2 : decide ((5 : Int) ≤ x) = false := decide_eq_false (by omega)
    have d3 : decide (y < 0) = false := decide_eq_false (by omega)
    have d4 : decide ((5 : Int) ≤ y) = false := decide_eq_false (by omega)
    obtain ⟨qs, hqs⟩ : ∃ qs, tps x y ps = qs := ⟨_, rfl⟩
    have HQ := Lib.hid hqs
    clear hc hv hqs
    have hmm := @run_makeMap Tryz.prog
    go_enter Tryz.func9, Tryz.ntmps9
    go_wp2_with fail
    refine (implPiles_as _ la ca ps true _ HI.out HS.out HV.out).mono ?_
    rintro e1 w1 ⟨rfl, hb1⟩
    have B1 := Lib.hid hb1; clear hb1
    have S1 := B1.out.size
    have HM0 := Lib.hid (World.ownsMap_made w1 Tryz.prog 9 (plainElem (H := Unit) Tryz.prog 3))
    obtain ⟨M, hMb⟩ : ∃ M, w1.heap.size = M := ⟨_, rfl⟩
    have hGM : G ≤ M := by rw [← hMb, ← hG]; exact S1
    have BW2 : Hid (Below G w (w1.alloc (.map #[] 0))) := by rw [← hG]; exact B1.out.alloc S1 _
    have HM2 : Hid ((w1.alloc (.map #[] 0)).ownsMap Tryz.prog 9 (plainElem (H := Unit) Tryz.prog 3) M 0 (.map [])) := by rw [← hMb]; exact HM0.out
    have SW2 : Hid (M < (w1.alloc (.map #[] 0)).heap.size) := by rw [Hid, ← hMb]; simp
    clear HM0 B1 S1
    go_wp2
    go_loopw [33] (fun i wr => ∃ k : Nat, k ≤ la ∧ i = .int .i64 k ∧ (∃ D : DataW Unit, wr.ownsMap Tryz.prog 9 (plainElem (H := Unit) Tryz.prog 3) M k D ∧ MapIs D (qs.take k)) ∧ M < wr.heap.size ∧ Below G w wr) (fun i _ => la - (intOf i).toNat)
    case atStart => exact ⟨0, by omega, rfl, ⟨_, HM2.out, mapIs_start⟩, SW2.out, BW2.out⟩
    case round =>
      obtain ⟨k, hk, rfl, ⟨D, hown, hMI⟩, hsz, hB⟩ := hrel
      have hBw : Below w.heap.size w wr := hG.symm ▸ hB
      have hGw : G ≤ wr.heap.size := by have := hBw.size; rw [hG] at this; exact this
      by_cases hlt : k < la
      · obtain ⟨b', off', rfl, hb', c0, c1⟩ := (HI.out.below hBw).piles hlt
        obtain ⟨t, ht⟩ : ∃ t, tAt ps k = t := ⟨_, rfl⟩
        obtain ⟨m, hm⟩ : ∃ m, mAt ps k = m := ⟨_, rfl⟩
        obtain ⟨t', ht'⟩ : ∃ t', turnT x y t = t' := ⟨_, rfl⟩
        have hmb := HMB.out k
        have hst := HS.out k
        have hkl : k < ps.length := by rw [H1.out]; exact hlt
        have hqk : qs.take (k + 1) = qs.take k ++ [(t', m)] := by
          rw [take_one (by rw [← HQ.out, tps_length]; exact hkl), ← HQ.out, tAt_tps hkl, mAt_tps hkl, ht, hm, ht']
        have hnew : ¬ ∃ p ∈ qs.take k, p.1 = t' := by
          have := tps_new hx hy HV.out hkl
          rw [HQ.out, ← HQ.out, tAt_tps hkl, HQ.out, ht, ht'] at this
          exact this
        rw [hm] at c1 hmb
        rw [ht] at c0 hst
        have hts : t'.size ≤ maxLen := by have := turnT_short x y t; rw [ht'] at this; unfold maxLen; omega
        have hstep := mapIs_new hMI (hown.tidy lawS).isMap hnew m
        rw [← hqk] at hstep
        have HST := Lib.hid hstep
        have HT := Lib.hid ht'
        clear ht hm ht' hqk hnew hstep hMI
        have WF : (Lit.int .i64 m).wf = true := WalkArith.wf_i64 (by omega)
        have hnb : k < maxLen := by unfold maxLen; omega
        obtain ⟨W, hW⟩ : ∃ W, wr.alloc (.cells #[.string t, .int .i64 m] 59) = W := ⟨_, rfl⟩
        have hBW : Below G w W := by rw [← hW]; exact hB.alloc hGw _
        have e0 : W.cell? ⟨wr.heap.size, 0, none⟩ = some (.string t) := by rw [← hW]; exact World.cell?_alloc_new wr _ _ 0
        have e1 : W.cell? ⟨wr.heap.size, 1, none⟩ = some (.int .i64 m) := by rw [← hW]; exact World.cell?_alloc_new wr _ _ 1
        have hwW : wr.heap.size < W.heap.size := by rw [← hW]; simp
        have hGW : G ≤ W.heap.size := by omega
        have hneM : some wr.heap.size ≠ some M := by intro he; injection he with he; omega
        have HOW : Hid (W.drew.ownsMap Tryz.prog 9 (plainElem (H := Unit) Tryz.prog 3) M k D) := by rw [← hW]; exact (hown.alloc _).drew
        go_wp2_with fail
        go_region_held3 (fun w' => w'.cell? ⟨wr.heap.size, 0, none⟩ = some (.string t) ∧ w'.cell? ⟨wr.heap.size, 1, none⟩ = some (.int .i64 m)) (first | exact ⟨e0, e1⟩ | exact ⟨d0, d1'⟩ | exact ⟨g0, g1⟩) (first | (go_at_call 25; refine (turnedText_as t x y t' _ hst HT.out).mono ?_; rintro e w5 ⟨rfl, hb5⟩; have d0 : w5.cell? ⟨wr.heap.size, 0, none⟩ = some (.string t) := (hb5.cell (p := ⟨wr.heap.size, 0, none⟩) hwW).trans e0; have d1' : w5.cell? ⟨wr.heap.size, 1, none⟩ = some (.int .i64 m) := (hb5.cell (p := ⟨wr.heap.size, 1, none⟩) hwW).trans e1; obtain ⟨w6, hrun, hown6, hgr6⟩ := (HOW.out.kept (Below.grownBy hb5) (by simp)).update lawS Tryz.underlying57 hnb (Go.WideMaps.keyOf_string_mk Tryz.underlying9 hts) (plainElem_int Tryz.underlying3 WF); have g0 : w6.cell? ⟨wr.heap.size, 0, none⟩ = some (.string t) := (World.cell?_of_block (a := ⟨wr.heap.size, 0, none⟩) (hgr6.block wr.heap.size (Nat.lt_of_lt_of_le hwW hb5.size) hneM)).trans d0; have g1 : w6.cell? ⟨wr.heap.size, 1, none⟩ = some (.int .i64 m) := (World.cell?_of_block (a := ⟨wr.heap.size, 1, none⟩) (hgr6.block wr.heap.size (Nat.lt_of_lt_of_le hwW hb5.size) hneM)).trans d1'))
        have BDw : Below W.heap.size W w5 := (Below.refl _ W).drew.trans hb5
        have B5 : Below G w w5 := hBW.trans (BDw.mono hGW)
        have HO6 := Lib.hid hown6
        have B6 : Below G w w6 := B5.grown hgr6 (by have := B5.size; have := BDw.size; omega) (fun i ei => by cases ei; exact hGM)
        have S6 : M < w6.heap.size := by have := hgr6.size; have := BDw.size; omega
        clear hown6 hgr6 hrun
        go_wp2
        go_roundw
        case rel => exact ⟨k + 1, by omega, by go_num, ⟨_, HO6.out, HST.out⟩, S6, B6⟩
        case measure => simp [intOf]; omega
      · obtain rfl : k = la := by omega
        have hall : qs.take k = tps x y ps := by rw [List.take_of_length_le (by rw [← HQ.out, tps_length, H1.out]; omega)]; exact HQ.out.symm
        rw [hall] at hMI
        have HC := Lib.hid (sortedPiles_any M k D (tps x y ps) wr hown hMI (by omega))
        clear hall hown hMI
        go_wp2_with fail
        refine HC.out.mono ?_
        rintro e1 w6 ⟨ts, g, cap, he, hfacts, hl, ho6, hb6⟩
        have hts := turned_eq hfacts HV.out
        have E3 : Hid (r = ts) := by rw [Hid, hts]; exact e2.out
        subst he
        have B6 := Lib.hid (hBw.trans (hb6.mono hBw.size))
        have O6 := Lib.hid (ho6.mono hBw.size)
        clear hfacts ho6 hb6 HC hts
        go_wp2
        go_ret2
        refine ⟨some ⟨g, 0, none⟩, cap, ?_, ?_, B6.out, fun _ => ⟨_, rfl⟩⟩
        · rw [e.out, E3.out]; rfl
        · rw [E3.out]; exact O6.out

end Go.Proofs.YtafnmongglhlaaaGreat

namespace Go.Proofs.YtafnmongglhlaaaGreat
open Go.RowKit

theorem l6In_as (n lo hi : Int) (v : Bool) (w : World) (h : inB n lo hi = v) :
    Calls Tryz.prog 43 #[.int .i64 n, .int .i64 lo, .int .i64 hi] w fun e w' => e = .returned (.bool v) ∧ w = w' := by subst h; exact l6In_any n lo hi w
theorem turn_take {x y : Int} {zs : List Int} {k : Nat} (hk : k < zs.length) {z : Int} (hz : zs[k]?.getD 0 = z) : turnB x y (zs.take (k + 1)) = turnB x y (zs.take k) ++ [swapC x y z] := by
  have e : zs[k] = z := by rw [← hz]; simp [hk]
  rw [List.take_succ_eq_append_getElem hk, e]
  simp [turnB]
theorem ints_snoc (a : List Int) (z : Int) : (a ++ [z]).map (Value.int .i64) = a.map (Value.int .i64) ++ [.int .i64 z] := by simp

theorem specText_as (a : Option Addr) (len cap : Nat) (zs : List Int) (t : ByteArray) (w : World) (h : IsInts w a len cap zs) (ht : txtB zs = t) :
    Calls Tryz.prog 34 #[.slice a len cap] w fun e w' => e = .returned (.string t) ∧ Dr w w' := by subst ht; exact specText_any a len cap zs w h
theorem mAt_turn {x y : Int} {ps : List Pl} (h : pilesB ps = true) (k i : Nat) : 0 ≤ mAt (mergeL [] ((tps x y ps).take k)) i ∧ mAt (mergeL [] ((tps x y ps).take k)) i ≤ 1000000 := by
  refine mAt_merge (xs := []) rfl (fun p hp => ?_) ?_ i
  · obtain ⟨q, hq, rfl⟩ := List.mem_map.1 (List.mem_of_mem_take hp)
    exact mem_valid h q hq
  · rw [List.length_take, tps_length]; have := (pilesB_pos h).2.2.2.2; omega

end Go.Proofs.YtafnmongglhlaaaGreat

namespace Go.Proofs.YtafnmongglhlaaaGreat
open Go.RowKit

theorem valid_len {ps : List Pl} (h : pilesB ps = true) : ps.length ≤ 12 := (pilesB_pos h).2.2.2.2
theorem addL_cases (ps : List Pl) (t : ByteArray) (m : Int) : addL ps t m = [] ∨ pilesB (addL ps t m) = true := by
  cases h : addB ps t m
  · left; rw [addL, h]; rfl
  · right; exact addL_valid h
theorem joinL_cases (xs ys : List Pl) : joinL xs ys = [] ∨ pilesB (joinL xs ys) = true := by
  cases h : joinB xs ys
  · left; rw [joinL, h]; rfl
  · right; rw [joinL, h]; exact ((joinB_iff xs ys).1 h).2.2
theorem canL_cases (ps : List Pl) (x y : Int) : canL ps x y = [] ∨ pilesB (canL ps x y) = true := by
  cases h : canB ps x y
  · left; rw [canL, h]; rfl
  · right; rw [canL, h]; have := (canB_iff ps x y).1 h; exact turn_valid this.2.1 this.2.2 this.1
theorem small_nil : Small [] := fun i => by simp [tAt]
theorem of_cases {r : List Pl} (h : r = [] ∨ pilesB r = true) : r.length ≤ 12 ∧ Small r := by
  rcases h with rfl | h
  · exact ⟨by simp, small_nil⟩
  · exact ⟨valid_len h, small_valid h⟩
theorem totalL_range (ps : List Pl) : -1 ≤ totalL ps ∧ totalL ps ≤ 13000000 := by
  unfold totalL
  cases h : pilesB ps
  · simp
  · have hm := mAt_wide (mAt_valid h)
    have := sum_bound hm ps.length (Nat.le_refl _)
    rw [List.take_length] at this
    have hl := valid_len h
    simp
    omega
theorem wrap_tot (a b : List Pl) : IntKind.i64.wrap (totalL a + totalL b) = totalL a + totalL b := IntWalk.i64_in _ (by have := totalL_range a; have := totalL_range b; omega)

end Go.Proofs.YtafnmongglhlaaaGreat
