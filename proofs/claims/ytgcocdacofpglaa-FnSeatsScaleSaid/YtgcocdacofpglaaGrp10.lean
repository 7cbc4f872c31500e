/-
  impl's quotients, next and SeatsNext: contracts. They write into no memory that was there.
  spec.SeatsDivisor: a contract at all arguments. It writes into no memory that was there.
  impl's next, SeatsNext and SeatsDivisor: contracts at all arguments. They write into no memory that was there.
-/
import Derived.Test.YtgcocdacofpglaaSeatJ
import Derived.Test.YtgcocdacofpglaaGrp7
import Derived.Test.YtgcocdacofpglaaGrp6
import Derived.Test.YtgcocdacofpglaaGrp8
namespace Go.Proofs.Ytgcocdacofpglaa
open Go.RowKit

attribute [local go_sem] Oper.semAt_some

theorem frac_infoQ : (Try.prog.info? 56).map (fun i => (i.zero, i.size, i.bytes)) = some (some (.agg #[.int .i64 0, .int .i64 0]), 2, 16) := by kernel_rfl
theorem zerosQ_made (n : Nat) : (madeCells (Value.agg #[.int .i64 0, .int .i64 0]).cells (n * 2)).toList = cellsF (List.replicate n (0, 0)) := by
  have e : (Value.agg #[.int .i64 0, .int .i64 0]).cells = #[.int .i64 0, .int .i64 0] := by rfl
  rw [e]
  refine List.ext_getElem? (fun i => ?_)
  have hl : (cellsF (List.replicate n (0, 0))).length = n * 2 := by rw [cellsF_length, List.length_replicate]
  by_cases h : i < n * 2
  · have h2 : (cellsF (List.replicate n ((0, 0) : Fr)))[i]? = some (.int .i64 0) := by
      have hr : fAt (List.replicate n ((0, 0) : Fr)) (i / 2) = (0, 0) := by unfold fAt; simp [show i / 2 < n by omega]
      rcases Nat.mod_two_eq_zero_or_one i with g | g
      · have := cellsF_num (List.replicate n ((0, 0) : Fr)) (i / 2) (by simp; omega)
        rw [hr, show i / 2 * 2 = i by omega] at this; exact this
      · have := cellsF_den (List.replicate n ((0, 0) : Fr)) (i / 2) (by simp; omega)
        rw [hr, show i / 2 * 2 + 1 = i by omega] at this; exact this
    rw [h2]
    simp [madeCells, h]
    rcases Nat.mod_two_eq_zero_or_one i with g | g <;> simp [g]
  · rw [List.getElem?_eq_none (by rw [Array.length_toList, size_madeCells]; omega), List.getElem?_eq_none (by rw [hl]; omega)]

/-- The counts of the first i candidates, zeros for the others. -/
def qsPart (cs : List Fr) (n i : Nat) : List Fr := (List.range n).map fun k => if k < i then fAt cs k else (0, 0)
theorem qsPart_zero (cs : List Fr) (n : Nat) : qsPart cs n 0 = List.replicate n (0, 0) := by
  refine List.ext_getElem (by simp [qsPart]) (fun k h1 h2 => ?_)
  simp [qsPart]
theorem qsPart_all {cs : List Fr} {n : Nat} (h : cs.length = n) : qsPart cs n n = cs := by
  refine List.ext_getElem (by simp [qsPart, h]) (fun k h1 h2 => ?_)
  simp [qsPart, fAt, h2, show k < n by rw [← h]; exact h2]
theorem qsPart_next {cs : List Fr} {n i : Nat} (_ : i < n) : qsPart cs n (i + 1) = (qsPart cs n i).set i (fAt cs i) := by
  refine List.ext_getElem (by simp [qsPart]) (fun k h1 h2 => ?_)
  rw [List.getElem_set]
  simp only [qsPart, List.getElem_map, List.getElem_range]
  by_cases e : i = k
  · subst e; simp
  · rw [if_neg e]
    by_cases g : k < i
    · rw [if_pos (by omega), if_pos g]
    · rw [if_neg (by omega), if_neg g]

set_option maxRecDepth 100000 in
set_option maxHeartbeats 4000000 in
/-- **quotients**. -/
theorem quots_as (T : Nat) (a : Option Addr) (n cap : Nat) (vs : List Int) (a' : Option Addr) (cap' : Nat) (gs : List Int) (m : Int) (w : World) (h : Sit w T a n cap vs a' cap' gs m) (hn : 1 ≤ n ∧ n ≤ 5) (hm : methB m = true) (hv : toB vs 99 n = true) (hg : toB gs 20 n = true) :
    Calls Try.prog 34 #[.pointer (some ⟨T, 0, none⟩)] w fun e w' => ∃ g, e = .returned (.slice (some ⟨g, 0, none⟩) n n) ∧ IsFr w' (some ⟨g, 0, none⟩) n n (qsL vs gs m) ∧ Below w.heap.size w w' := by
  obtain ⟨i0, hi, hz0, hz1, hz2⟩ := info_parts frac_infoQ
  have HS := Lib.hid h
  have HM := Lib.hid hm
  have HV := Lib.hid hv
  have HG := Lib.hid hg
  have HNV : Hid (vs.length = n) := h.votes.1
  have HNG : Hid (gs.length = n) := h.given.1
  have htl := h.lt
  have hn5 := hn.2
  have hn1 := hn.1
  have k0 := h.c0
  have k1 := h.c1
  obtain ⟨gb, go, hge, hgb, hgc⟩ := h.given.2.2.2 (by omega)
  subst hge
  have HGC := Lib.hid hgc
  obtain ⟨G, hG⟩ : ∃ G, w.heap.size = G := ⟨_, rfl⟩
  have HWG := Lib.hid hG
  have hnl : (qsL vs gs m).length = n := by rw [qsL_length]; exact HNV.out
  obtain ⟨cs, hcs⟩ : ∃ cs, qsL vs gs m = cs := ⟨_, rfl⟩
  rw [hcs] at hnl
  have HCS := Lib.hid hcs
  have HCL := Lib.hid hnl
  rw [hcs]
  have HGG : Hid (G ≤ w.heap.size) := by unfold Hid; omega
  clear h hm hv hg hgc hcs hnl hn
  go_enter Try.func34, Try.ntmps34
  go_wp2_with (at_make; refine wpList_make_full _ rfl _ _ 52 rfl G 56 i0 (.agg #[.int .i64 0, .int .i64 0]) 2 Try.underlying52 hi hz0 hz1 .i64 .i64 _ _ n rfl rfl rfl rfl (by rw [hz2]; omega) (by unfold maxLen; omega) HGG.out ?_; intro w2 hown hgrow; have hb2 : Below w.heap.size w w2 := (Below.refl _ w).grown hgrow (Nat.le_refl _) (fun k e => by cases e); have k1' : w2.cell? ⟨T, 1, none⟩ = some (.slice (some ⟨gb, go, none⟩) n cap') := (hb2.cell (p := ⟨T, 1, none⟩) htl).trans k1; have O2 := Lib.hid hown; have B2 := Lib.hid hb2; clear hown hgrow hb2)
  have O2' := O2.out
  rw [zerosQ_made, ← qsPart_zero cs n, HWG.out] at O2'
  have OC2 := Lib.hid O2'
  clear O2 O2' k0 k1 k1' hG
  go_loopw [4, 5, 17] (fun _ _ iv wr => ∃ i : Nat, i ≤ n ∧ iv = .int .i64 (i : Int) ∧ Hid (wr.ownsRow G 56 2 (.slice (some ⟨G, 0, none⟩) n n) n (cellsF (qsPart cs n i))) ∧ Hid (Below w.heap.size w wr)) (fun _ _ iv _ => n - (intOf iv).toNat)
  case atStart => exact ⟨0, Nat.zero_le _, rfl, OC2, B2⟩
  case round =>
    clear OC2 B2
    obtain ⟨i, hin, rfl, hO, hB⟩ := hrel
    by_cases hlt : i < n
    · have ci := (hB.out.cell (p := ⟨gb, go + i, none⟩) hgb).trans (HGC.out i hlt)
      obtain ⟨g, hg⟩ : ∃ g, gs[i]?.getD 0 = g := ⟨_, rfl⟩
      rw [hg] at ci
      have bg := toB_at HG.out hlt
      rw [hg] at bg
      have bv := Lib.hid (toB_at HV.out hlt)
      obtain ⟨x, y, hxy⟩ : ∃ x y, fAt cs i = (x, y) := ⟨_, _, rfl⟩
      have HXE := Lib.hid hxy
      have HQ : Hid (ofF (vs[i]?.getD 0) (divI m g) = (x, y)) := by
        have e := qs_at (vs := vs) (gs := gs) (m := m) (z := (i : Int)) (by rw [HNV.out]; omega)
        rw [HCS.out, Int.toNat_natCast, seV_nat, seV_nat, hxy, hg] at e
        exact e.symm
      have hii : (i : Int) < (n : Int) := by omega
      clear hg hxy
      go_wp2_with fail
      refine (quot_as T _ n cap vs _ cap' gs m i g x y _ (HS.out.below hB.out) hlt HM.out bv.out bg HQ.out).mono ?_
      rintro e w3 ⟨rfl, hb3⟩
      have O3 := Lib.hid (owns_under hO.out hb3)
      have B3 := Lib.hid (below_on hB.out hb3)
      have gC : G ≤ G := (O3.out.lt G rfl).1
      obtain ⟨⟨m0, m1⟩, m2, m3⟩ := meets_setF O3.out hlt (.int .i64 x)
      obtain ⟨O4', -⟩ := owns_setF O3.out i x y
      have O4 : Hid (((w3.setCell ⟨G, i * 2, none⟩ (.int .i64 x)).setCell ⟨G, i * 2 + 1, none⟩ (.int .i64 y)).ownsRow G 56 2 (.slice (some ⟨G, 0, none⟩) n n) n (cellsF (qsPart cs n (i + 1)))) := by
        unfold Hid; rw [qsPart_next hlt, HXE.out]; exact O4'
      have B4 : Hid (Below w.heap.size w ((w3.setCell ⟨G, i * 2, none⟩ (.int .i64 x)).setCell ⟨G, i * 2 + 1, none⟩ (.int .i64 y))) := (B3.out.setCell (p := ⟨G, i * 2, none⟩) (by show w.heap.size ≤ G; rw [HWG.out]; exact Nat.le_refl _) _).setCell (p := ⟨G, i * 2 + 1, none⟩) (by show w.heap.size ≤ G; rw [HWG.out]; exact Nat.le_refl _) _
      clear O3 B3 O4' hO hB hb3 ci bg
      go_wp2
      go_roundw
      case rel => exact ⟨i + 1, by omega, by go_num, O4, B4⟩
      case measure => simp [intOf]; omega
    · obtain rfl : i = n := by omega
      have hO2 := hO.out
      rw [qsPart_all HCL.out] at hO2
      have OC := Lib.hid (IsFr.of_owned hO2 (by omega))
      clear hO2
      go_wp2
      go_ret
      exact ⟨G, rfl, OC.out, hB.out⟩

end Go.Proofs.Ytgcocdacofpglaa

namespace Go.Proofs.Ytgcocdacofpglaa
open Go.RowKit

attribute [local go_sem] Oper.semAt_some

theorem owns_some {w : World} {base n size : Nat} {e : TypeId} {v : Value} {xs : List Value} (h : w.ownsRow base e size v n xs) (hn : 0 < n) : ∃ g c, v = .slice (some ⟨g, 0, none⟩) n c := by
  rcases h.2 with ⟨e1, e0⟩ | ⟨g, c, cur, e1, _⟩
  · have := h.1; subst e0; simp at this; omega
  · exact ⟨g, c, e1⟩
theorem owns_int {w : World} {base n g c y : Nat} {gl : List Int} {z : Int} (h : w.ownsRow base 3 1 (.slice (some ⟨g, 0, none⟩) n c) n (gl.map (Value.int .i64))) (hl : gl.length = n) (hy : y < n) (hz : gl[y]?.getD 0 = z) : w.cell? ⟨g, y, none⟩ = some (.int .i64 z) := by
  rw [h.cellAt y (by omega), ← hz]
  simp [show y < gl.length by omega]
theorem totals_of {vs : List Int} {m : Int} {lots : List Int} {k : Nat} (hm : methB m = true) (hl : lotsB lots = true) (hn : lots.length = vs.length) (hk : k ≤ 20) : toB (seatsL vs m lots k) 20 vs.length = true := by
  obtain ⟨h1, h2, -⟩ := (giveB_iff _ _).1 (seats_are hm hl hn k hk).1
  rw [h2] at h1; exact h1

set_option maxRecDepth 100000 in
set_option maxHeartbeats 8000000 in
/-- **spec.SeatsDivisor**, at valid arguments. -/
theorem specSeats_yes (a : Option Addr) (n cap : Nat) (vs : List Int) (s : Nat) (m : Int) (al : Option Addr) (cl : Nat) (lots : List Int) (r : List Int) (w : World) (h : IsInts w a n cap vs) (hl : IsInts w al n cl lots)
    (hv1 : voteB vs = true) (hs : s ≤ 20) (hm : methB m = true) (hlb : lotsB lots = true) (hr : seatsL vs m lots s = r) :
    Calls Try.prog 11 #[.slice a n cap, .int .i64 (s : Int), .int .i64 m, .slice al n cl] w (Told w r true) := by
  obtain ⟨i0, hi, hz0, hz1, hz2⟩ := info_parts int_info
  have hnv := h.1
  have hnl := hl.1
  have hn5 : n ≤ 5 := by have := (lotsB_len hlb).2; omega
  have hn1 : 1 ≤ n := by have := (lotsB_len hlb).1; omega
  have HI := Lib.hid h
  have HL := Lib.hid hl
  have V1 := Lib.hid hv1
  have HM := Lib.hid hm
  have HLB := Lib.hid hlb
  have HEQ : Hid (lots.length = vs.length) := by unfold Hid; omega
  have HNV := Lib.hid hnv
  have HNL := Lib.hid hnl
  obtain ⟨⟨x1, -, -⟩, -⟩ := (voteB_iff vs).1 hv1
  rw [hnv] at x1
  have X1 := Lib.hid x1
  have HS := Lib.hid (inB_yes (x := (s : Int)) (lo := 0) (hi := 20) (by omega) (by omega))
  have hne : ((n : Int) != (n : Int)) = false := by simp
  have HR := Lib.hid hr
  obtain ⟨G, hG⟩ : ∃ G, w.heap.size = G := ⟨_, rfl⟩
  have HG := Lib.hid hG
  clear h hl hv1 hm hlb hnv hnl x1 hr
  go_enter Try.func11, Try.ntmps11
  go_wp2_with fail
  refine (specVotes_as _ _ _ vs true _ HI.out V1.out).mono ?_
  rintro e w1 ⟨rfl, rfl⟩
  go_wp2_with fail
  refine (l6In_any _ _ _ _).mono ?_
  rintro e w' ⟨he, rfl⟩
  rw [HS.out] at he
  subst he
  go_wp2_with fail
  refine (specMeth_as m true _ HM.out).mono ?_
  rintro e w1 ⟨rfl, rfl⟩
  go_wp2_with fail
  refine (specLots_as _ _ _ lots true _ HL.out HLB.out).mono ?_
  rintro e w1 ⟨rfl, hd⟩
  have hsz : G ≤ w1.heap.size := by rw [← hG]; exact (hd.below w.heap.size).size
  have HB1 : Hid (Below G w w1) := hd.below _
  have HI1 := Lib.hid (HI.out.dr hd)
  have HL1 := Lib.hid (HL.out.dr hd)
  clear hd
  go_wp2_with (at_make; refine wpList_make_full _ rfl _ _ 23 rfl G 3 i0 (.int .i64 0) 1 Try.underlying23 hi hz0 hz1 .i64 .i64 _ _ n rfl rfl rfl rfl (by rw [hz2]; omega) (by unfold maxLen; omega) hsz ?_; intro w3 hown hgrow)
  have HB3 : Hid (Below G w w3) := HB1.out.grown hgrow hsz (fun k e => by cases e)
  obtain ⟨g3, c3, e3⟩ := owns_some hown (by omega)
  injection e3 with e3a _ e3b
  injection e3a with e3a
  injection e3a with e3c _ _
  subst e3b
  have O3 : Hid (w3.ownsRow G 3 1 (.slice (some ⟨w1.heap.size, 0, none⟩) n n) n ((seatsL vs m lots 0).map (Value.int .i64))) := by
    unfold Hid; show w3.ownsRow G _ 1 _ n ((List.replicate vs.length 0).map _); rw [HNV.out, ← zeros_made]; exact hown
  clear hown hgrow e3c
  go_wp2
  go_loopw [10, 11, 12] (fun ov iv _ wr => ∃ (k g c : Nat), k ≤ s ∧ iv = .int .i64 (k : Int) ∧ ov = .slice (some ⟨g, 0, none⟩) n c ∧ Hid (wr.ownsRow G 3 1 (.slice (some ⟨g, 0, none⟩) n c) n ((seatsL vs m lots k).map (Value.int .i64))) ∧ Hid (Below G w wr)) (fun _ iv _ _ => s - (intOf iv).toNat)
  case atStart => exact ⟨0, _, _, Nat.zero_le _, rfl, rfl, O3.out, HB3⟩
  case round =>
    clear O3 HB3 HB1 hsz
    obtain ⟨k, g, c, hk, rfl, rfl, hO, hB⟩ := hrel
    have hBw : Below w.heap.size w wr := HG.out.symm ▸ hB.out
    by_cases hlt : k < s
    · have HT := Lib.hid (totals_of HM.out HLB.out HEQ.out (show k ≤ 20 by omega))
      rw [HNV.out] at HT
      have IG := Lib.hid (IsInts.of_owned hO.out (by omega))
      have HRG := next_in (vs := vs) (gs := seatsL vs m lots k) HM.out HLB.out (HEQ.out.trans HNV.out) (by rw [seatsL_length, HNV.out]; exact HT.out)
      obtain ⟨x, hx⟩ : ∃ x, nextL (seV vs) (seV (seatsL vs m lots k)) m lots = x := ⟨_, rfl⟩
      rw [hx] at HRG
      have HSU : Hid (seatsL vs m lots (k + 1) = (seatsL vs m lots k).set x.toNat (seV (seatsL vs m lots k) x + 1)) := by rw [Hid, seatsL_succ, hx]
      obtain ⟨y, rfl⟩ := Int.eq_ofNat_of_zero_le HRG.1
      rw [Int.toNat_natCast, seV_nat] at HSU
      have hyn : y < n := by omega
      obtain ⟨gl, hgl⟩ : ∃ gl, seatsL vs m lots k = gl := ⟨_, rfl⟩
      have hgll : gl.length = n := by rw [← hgl, seatsL_length, HNV.out]
      have HX := Lib.hid hx
      rw [hgl] at HSU HT IG HX hO
      have bz := toB_at HT.out hyn
      obtain ⟨z, hz⟩ : ∃ z, gl[y]?.getD 0 = z := ⟨_, rfl⟩
      rw [hz] at bz HSU
      have HZ := Lib.hid hz
      have HGL := Lib.hid hgll
      clear hz hgl hx HRG hgll
      go_wp2_with fail
      refine (specNxt_as _ n _ vs _ _ gl m _ _ lots (y : Int) _ (HI.out.below hBw) IG.out (HL.out.below hBw) X1.out HT.out HM.out HLB.out HX.out).mono ?_
      rintro e w2 ⟨rfl, hd⟩
      have hB2 : Hid (Below G w w2) := hG ▸ (hBw.trans (hd.below _))
      have hO2 := Lib.hid (owns_under hO.out (hd.below _))
      have hsz2 : G ≤ w2.heap.size := by have := hB2.out.size; omega
      have hg2 : g < w2.heap.size := (hO2.out.lt g rfl).2
      have L1 : Hid ((gl.map (Value.int .i64)).length = n * 1) := by unfold Hid; rw [List.length_map, HGL.out]; omega
      have P1 : Hid (∀ j u, (gl.map (Value.int .i64))[j]? = some u → (w2.alloc (.cells #[] 3)).cell? ((⟨g, 0, none⟩ : Addr).add j) = some u) := by
        have := piece_rest (w := w2.alloc (.cells #[] 3)) (b := g) (off := 0) (len := n) (zs := gl) HGL.out (fun j hj => (((Below.refl w2.heap.size w2).alloc (Nat.le_refl _) _).cell (p := ⟨g, 0 + j, none⟩) hg2).trans (by rw [Nat.zero_add, hO2.out.cellAt j (by omega)]; simp [show j < gl.length by rw [HGL.out]; exact hj])) 0 0 (Nat.zero_le _) rfl
        rw [List.drop_zero] at this
        exact this
      have hE := Lib.hid (World.ownsRow_lit (base := G) (e := 3) (size := 1) w2 #[] 0 hsz2 (by unfold maxLen; omega) rfl)
      have hyc : (y : Int) < (n : Int) := by omega
      have M1 : 0 + n ≤ maxLen := by unfold maxLen; omega
      have N1 : (0 + n) * 8 ≤ 140737488355328 := by omega
      have S1 : G ≤ (w2.alloc (.cells #[] 3)).heap.size := by simp; omega
      clear hd hO hB hBw
      go_wp2_with (at_builtin; refine wpList_append_own _ rfl _ _ 23 rfl G 3 i0 (.int .i64 0) 1 8 Try.underlying23 hi hz0 hz1 hz2 rfl (by decide) _ _ _ rfl hE.out ⟨g, 0, none⟩ n c (gl.map (Value.int .i64)) rfl L1.out P1.out (ints_one _) M1 N1 S1 ?_; intro v' w4 hown' hgrow _; simp only [Nat.zero_add, List.nil_append] at hown'; obtain ⟨g4, c4, rfl⟩ := owns_some hown' hn1; have q0 := owns_int hown' HGL.out hyn HZ.out; have f0 : w4.frozen? ⟨g4, y, none⟩ = false := hown'.frozenAt y)
      have HB4 : Hid (Below G w w4) := (hB2.out.alloc hsz2 (.cells #[] 3)).grown hgrow S1 (fun j e => by
        have e : some w2.heap.size = some j := e
        injection e with e
        omega)
      have HO4 := Lib.hid hown'
      clear hown' hgrow L1 P1 hE M1 N1 S1
      have HST := Lib.hid (HO4.out.stored y (.int .i64 (z + 1)))
      have hg4 : G ≤ g4 := (HO4.out.lt g4 rfl).1
      have HO5 : Hid ((w4.setCell ⟨g4, y, none⟩ (.int .i64 (z + 1))).ownsRow G 3 1 (.slice (some ⟨g4, 0, none⟩) n c4) n ((seatsL vs m lots (k + 1)).map (Value.int .i64))) := by
        unfold Hid; rw [HSU.out, ← map_set_int]; exact HST.out.1
      have HB5 : Hid (Below G w (w4.setCell ⟨g4, y, none⟩ (.int .i64 (z + 1)))) := HB4.out.grown HST.out.2 (by have := HB4.out.size; omega) (fun j e => by cases e; exact hg4)
      clear HST HB4 HSU
      go_wp2
      go_roundw
      case rel => exact ⟨k + 1, g4, c4, by omega, by go_num, rfl, HO5, HB5⟩
      case measure => simp [intOf]; omega
    · obtain rfl : k = s := by omega
      have hrl : r.length = n := by rw [← HR.out, seatsL_length, HNV.out]
      have HRL := Lib.hid hrl
      clear hrl
      go_wp2
      go_ret2
      refine ⟨some ⟨g, 0, none⟩, c, by rw [HRL.out]; rfl, ?_, hBw⟩
      rw [HRL.out, ← HR.out, HG.out]
      exact hO.out

set_option maxHeartbeats 2000000 in
/-- **spec.SeatsDivisor**, at other arguments. -/
theorem specSeats_no (a : Option Addr) (n cap : Nat) (vs : List Int) (s m : Int) (al : Option Addr) (nl cl : Nat) (lots : List Int) (w : World) (h : IsInts w a n cap vs) (hl : IsInts w al nl cl lots) (hk : okD vs s m lots = false) :
    Calls Try.prog 11 #[.slice a n cap, .int .i64 s, .int .i64 m, .slice al nl cl] w (Told w [] false) := by
  have H1 := Lib.hid h
  have H3 := Lib.hid hl
  have hm1 := h.2.2.1
  have hm3 := hl.2.2.1
  obtain ⟨v1, hv1⟩ : ∃ v, voteB vs = v := ⟨_, rfl⟩
  obtain ⟨v2, hv2⟩ : ∃ v, inB s 0 20 = v := ⟨_, rfl⟩
  obtain ⟨v3, hv3⟩ : ∃ v, methB m = v := ⟨_, rfl⟩
  obtain ⟨v4, hv4⟩ : ∃ v, lotsB lots = v := ⟨_, rfl⟩
  have HO : Hid ((v1 && (v2 && (v3 && (v4 && decide (nl = n))))) = false) := by unfold Hid; rw [← hk]; unfold okD; rw [hv1, hv2, hv3, hv4, hl.1, h.1]
  have V1 := Lib.hid hv1
  have V2 := Lib.hid hv2
  have V3 := Lib.hid hv3
  have V4 := Lib.hid hv4
  have HT : Hid (∀ w1, Dr w w1 → Told w [] false (.returned (.tuple #[.slice (some ⟨w1.heap.size, 0, none⟩) 0 0, .bool false])) (w1.alloc (.cells #[] 3))) := fun w1 hd =>
    ⟨_, 0, rfl, World.ownsRow_lit w1 #[] 0 (hd.below w.heap.size).size (by unfold maxLen; omega) rfl, (hd.below _).alloc (hd.below w.heap.size).size _⟩
  clear h hl hv1 hv2 hv3 hv4 hk
  go_enter Try.func11, Try.ntmps11
  go_wp2_with fail
  refine (specVotes_as _ _ _ vs v1 _ H1.out V1.out).mono ?_
  rintro e w1 ⟨rfl, rfl⟩
  cases v1
  · go_wp2
    go_ret2
    exact HT.out _ (Dr.refl _)
  go_wp2_with fail
  refine (l6In_any _ _ _ _).mono ?_
  rintro e w' ⟨he, rfl⟩
  rw [V2.out] at he
  subst he
  cases v2
  · go_wp2
    go_ret2
    exact HT.out _ (Dr.refl _)
  go_wp2_with fail
  refine (specMeth_as m v3 _ V3.out).mono ?_
  rintro e w1 ⟨rfl, rfl⟩
  cases v3
  · go_wp2
    go_ret2
    exact HT.out _ (Dr.refl _)
  go_wp2_with fail
  refine (specLots_as _ _ _ lots v4 _ H3.out V4.out).mono ?_
  rintro e w1 ⟨rfl, hd⟩
  cases v4
  · go_wp2
    go_ret2
    exact HT.out _ hd
  have hll : ¬ nl = n := fun e => by have := HO.out; rw [decide_eq_true e] at this; cases this
  have hne : ((nl : Int) != (n : Int)) = true := by simp; omega
  go_wp2
  go_ret2
  exact HT.out _ hd

/-- **spec.SeatsDivisor**. -/
theorem specSeats_as (a : Option Addr) (n cap : Nat) (vs : List Int) (s m : Int) (al : Option Addr) (nl cl : Nat) (lots : List Int) (r : List Int) (v : Bool) (w : World) (h : IsInts w a n cap vs) (hl : IsInts w al nl cl lots) (hk : okD vs s m lots = v) (hr : divL vs s m lots = r) :
    Calls Try.prog 11 #[.slice a n cap, .int .i64 s, .int .i64 m, .slice al nl cl] w (Told w r v) := by
  cases v
  · rw [divL_no hk] at hr
    subst hr
    exact specSeats_no a n cap vs s m al nl cl lots w h hl hk
  · obtain ⟨h1, h2, h3, h4, h5⟩ := (okD_iff vs s m lots).1 hk
    obtain ⟨S, rfl⟩ := Int.eq_ofNat_of_zero_le h2.1
    have e : nl = n := by have := h.1; have := hl.1; omega
    subst e
    rw [divL, if_pos hk, Int.toNat_natCast] at hr
    exact specSeats_yes a nl cap vs S m al cl lots r w h hl h1 (by omega) h3 h4 hr

end Go.Proofs.Ytgcocdacofpglaa

namespace Go.Proofs.Ytgcocdacofpglaa
open Go.RowKit

attribute [local go_sem] Oper.semAt_some

set_option maxHeartbeats 2000000 in
/-- **next**. -/
theorem next_as (T : Nat) (a : Option Addr) (n cap : Nat) (vs : List Int) (a' : Option Addr) (cap' : Nat) (gs : List Int) (m : Int) (al : Option Addr) (cl : Nat) (lots : List Int) (r : Int) (w : World) (h : Sit w T a n cap vs a' cap' gs m) (hl : IsInts w al n cl lots) (hm : methB m = true) (hv : toB vs 99 n = true) (hg : toB gs 20 n = true) (hlb : lotsB lots = true) (hr : nextL (seV vs) (seV gs) m lots = r) :
    Calls Try.prog 28 #[.pointer (some ⟨T, 0, none⟩), .slice al n cl] w fun e w' => e = .returned (.int .i64 r) ∧ Below w.heap.size w w' := by
  have hn := hl.1
  have hn5 : 1 ≤ n ∧ n ≤ 5 := by have := lotsB_len hlb; omega
  have HNV : Hid (vs.length = n) := h.votes.1
  have HNG : Hid (gs.length = n) := h.given.1
  have HM := Lib.hid hm
  have HV := Lib.hid hv
  have HG := Lib.hid hg
  have HS := Lib.hid h
  have HL := Lib.hid hl
  have HMEM : Hid (∀ z ∈ lots, 0 ≤ z ∧ z < (n : Int)) := fun z hz => by have := lotsB_mem hlb z hz; omega
  have HR : Hid (grF (qsL vs gs m) (lots[0]?.getD 0) lots = r) := by
    rw [Hid, ← hr]
    exact grF_all hm (by rw [HNG.out]; exact hg) (lots_ne hlb) (by rw [HNV.out]; exact HMEM.out)
  have HFR : Hid (∀ j, j < n → fracB (fAt (qsL vs gs m) j) = true) := fun j hj => qs_fr hm (by rw [HNV.out]; exact hv) (by rw [HNG.out]; exact hg) (by rw [HNV.out, HNG.out]) (by rw [HNV.out]; exact hj)
  obtain ⟨cs, hcs⟩ : ∃ cs, qsL vs gs m = cs := ⟨_, rfl⟩
  rw [hcs] at HR HFR
  have HCS := Lib.hid hcs
  clear h hl hm hv hg hlb hr hn hcs
  go_enter Try.func28, Try.ntmps28
  go_wp2_with fail
  refine (quots_as T _ n cap vs _ cap' gs m _ HS.out hn5 HM.out HV.out HG.out).mono ?_
  rintro e w1 ⟨g, rfl, hfr, hb⟩
  rw [HCS.out] at hfr
  have F1 := Lib.hid hfr
  have B1 := Lib.hid hb
  have L1 := Lib.hid (HL.out.below hb)
  clear hfr hb
  go_wp2_with fail
  refine (firstG_as _ n n cs _ n cl lots r _ F1.out L1.out HMEM.out (by omega) HFR.out HR.out).mono ?_
  rintro e w2 ⟨rfl, hb⟩
  have B2 := Lib.hid (below_on B1.out hb)
  go_wp2
  go_ret
  exact ⟨rfl, B2.out⟩

set_option maxHeartbeats 2000000 in
/-- **impl.SeatsNext**. -/
theorem implNext_as (a : Option Addr) (n cap : Nat) (vs : List Int) (a' : Option Addr) (n' cap' : Nat) (gs : List Int) (m : Int) (al : Option Addr) (nl cl : Nat) (lots : List Int) (r : Int) (w : World) (h : IsInts w a n cap vs) (h' : IsInts w a' n' cap' gs) (hl : IsInts w al nl cl lots)
    (hr : nextI vs gs m lots = r) :
    Calls Try.prog 15 #[.slice a n cap, .slice a' n' cap', .int .i64 m, .slice al nl cl] w fun e w' => e = .returned (.int .i64 r) ∧ Below w.heap.size w w' := by
  obtain ⟨v1, hv1⟩ : ∃ v, okC vs gs m = v := ⟨_, rfl⟩
  obtain ⟨v2, hv2⟩ : ∃ v, (lotsB lots && decide (nl = n)) = v := ⟨_, rfl⟩
  have HO : Hid (okN vs gs m lots = (v1 && v2)) := by
    unfold Hid; rw [← hv1, ← hv2]; unfold okN okC; rw [hl.1, h.1]; simp only [Bool.and_assoc]
  have H1 := Lib.hid h
  have H2 := Lib.hid h'
  have H3 := Lib.hid hl
  have V1 := Lib.hid hv1
  have V2 := Lib.hid hv2
  have HR := Lib.hid hr
  clear h h' hl hv1 hv2 hr
  go_enter Try.func15, Try.ntmps15
  go_wp2_with fail
  refine (newSeat_as _ n cap vs _ n' cap' gs m v1 _ H1.out H2.out V1.out).mono ?_
  rintro e w1 ⟨p, rfl, hb, hT⟩
  have B1 := Lib.hid hb
  have L1 := Lib.hid (H3.out.below hb)
  have HT := Lib.hid hT
  clear hb hT
  cases v1
  · have HX : Hid (r = -1) := by rw [Hid, ← HR.out, nextI_no HO.out]
    go_wp2
    go_ret
    exact ⟨ret_int HX.out.symm, B1.out⟩
  go_wp2_with fail
  refine (lotsOf_as _ _ _ lots n v2 _ L1.out V2.out).mono ?_
  rintro e w2 ⟨rfl, hb⟩
  have B2 := Lib.hid (below_on B1.out hb)
  have L2 := Lib.hid (L1.out.below hb)
  cases v2
  · have HX : Hid (r = -1) := by rw [Hid, ← HR.out, nextI_no HO.out]
    go_wp2
    go_ret
    exact ⟨ret_int HX.out.symm, B2.out⟩
  obtain ⟨hnn, T, hp, -, hS⟩ := HT.out (by trivial)
  subst hp
  subst hnn
  have S2 := Lib.hid (hS.below hb)
  have HX : Hid (nextL (seV vs) (seV gs) m lots = r) := by rw [Hid, ← HR.out, nextI, if_pos (show okN vs gs m lots = true from HO.out)]
  obtain ⟨c1, c2, c3⟩ := (okC_iff vs gs m).1 V1.out
  obtain ⟨⟨x1, -, -⟩, -⟩ := (voteB_iff vs).1 c1
  obtain ⟨g1, g2, -⟩ := (giveB_iff gs _).1 c2
  have l12 : lotsB lots = true ∧ nl = n' := by have := V2.out; simpa using this
  obtain ⟨l1, rfl⟩ := l12
  rw [H1.out.1] at x1 g2
  rw [g2] at g1
  have X1 := Lib.hid x1
  have G1 := Lib.hid g1
  have M1 := Lib.hid c3
  have LB := Lib.hid l1
  clear x1 g1 c3 l1 hS hb c1 c2 g2
  go_wp2_with fail
  refine (next_as T _ nl cap vs _ cap' gs m _ cl lots r _ S2.out L2.out M1.out X1.out G1.out LB.out HX.out).mono ?_
  rintro e w3 ⟨rfl, hb⟩
  have B3 := Lib.hid (below_on B2.out hb)
  go_wp2
  go_ret
  exact ⟨rfl, B3.out⟩

end Go.Proofs.Ytgcocdacofpglaa
