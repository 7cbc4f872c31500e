/-
  spec.SeatsDivisor: a contract at all arguments. It writes into no memory that was there.
  spec.l11All and spec.l11Most: everyone; who has the greatest of some numbers, in memory of their own.
  A region that draws its order, whose operations only read what was there and whose callees write nothing that was there: one walk, in the order of the text. No function of the seat.
  Blocks of two ints that a function lays itself, behind calls. Of no function.
  spec.l22Sum and spec.SeatsRemainder: contracts at all arguments. They write into no memory that was there.
  The statements' own sumOf and before: the sum of at most twenty numbers; which of two comes first in a list.
  sameInts: whether two lists are equal. No condition but what each theorem says.
-/
import Derived.Test.YtbcemgmfkddafaaGrp6
import Derived.Test.YtbcemgmfkddafaaGrp4
import Derived.Test.YtbcemgmfkddafaaGrp3
import Derived.Test.YtbcemgmfkddafaaGrp5
import Derived.Test.YtbcemgmfkddafaaGrp1
import Derived.BigQuiet
import Derived.Handy
import Derived.Test.YtbcemgmfkddafaaSeatS
import Derived.Deep.AppendLies
namespace Go.Proofs.Ytbcemgmfkddafaa
open Go.RowKit

attribute [local go_sem] Oper.semAt_some

theorem owns_some {w : World} {base n size : Nat} {e : TypeId} {v : Value} {xs : List Value} (h : w.ownsRow base e size v n xs) (hn : 0 < n) : ∃ g c, v = .slice (some ⟨g, 0, none⟩) n c := by
  rcases h.2 with ⟨e1, e0⟩ | ⟨g, c, cur, e1, _⟩
  · have := h.1; subst e0; simp at this; omega
  · exact ⟨g, c, e1⟩
theorem owns_int {w : World} {base n g c y : Nat} {gl : List Int} {z : Int} (h : w.ownsRow base 3 1 (.slice (some ⟨g, 0, none⟩) n c) n (gl.map (Value.int .i64))) (hl : gl.length = n) (hy : y < n) (hz : gl[y]?.getD 0 = z) : w.cell? ⟨g, y, none⟩ = some (.int .i64 z) := by
  rw [h.cellAt y (by omega), ← hz]
  simp [show y < gl.length by omega]
theorem totals_of {vs : List Int} {m : Int} {lots : List Int} {k : Nat} (hm : methB m = true) (hl : lotsB lots = true) (hn : lots.length = vs.length) (hk : k ≤ 20) : toB (seatsL vs m lots k) 20 vs.length = true := by
  obtain ⟨h1, h2, -⟩ := (giveB_iff _ _).1 (seats_are hm hl hn k hk).1
  rw [h2] at h1; exact h1

set_option maxRecDepth 100000 in
set_option maxHeartbeats 8000000 in
/-- **spec.SeatsDivisor**, at valid arguments. -/
theorem specSeats_yes (a : Option Addr) (n cap : Nat) (vs : List Int) (s : Nat) (m : Int) (al : Option Addr) (cl : Nat) (lots : List Int) (r : List Int) (w : World) (h : IsInts w a n cap vs) (hl : IsInts w al n cl lots)
    (hv1 : voteB vs = true) (hs : s ≤ 20) (hm : methB m = true) (hlb : lotsB lots = true) (hr : seatsL vs m lots s = r) :
    Calls Try.prog 79 #[.slice a n cap, .int .i64 (s : Int), .int .i64 m, .slice al n cl] w (Told w r true) := by
  obtain ⟨i0, hi, hz0, hz1, hz2⟩ := info_parts int_info
  have hnv := h.1
  have hnl := hl.1
  have hn5 : n ≤ 5 := by have := (lotsB_len hlb).2; omega
  have hn1 : 1 ≤ n := by have := (lotsB_len hlb).1; omega
  have HI := Lib.hid h
  have HL := Lib.hid hl
  have V1 := Lib.hid hv1
  have HM := Lib.hid hm
  have HLB := Lib.hid hlb
  have HEQ : Hid (lots.length = vs.length) := by unfold Hid; omega
  have HNV := Lib.hid hnv
  have HNL := Lib.hid hnl
  obtain ⟨⟨x1, -, -⟩, -⟩ := (voteB_iff vs).1 hv1
  rw [hnv] at x1
  have X1 := Lib.hid x1
  have HS := Lib.hid (inB_yes (x := (s : Int)) (lo := 0) (hi := 20) (by omega) (by omega))
  have hne : ((n : Int) != (n : Int)) = false := by simp
  have HR := Lib.hid hr
  obtain ⟨G, hG⟩ : ∃ G, w.heap.size = G := ⟨_, rfl⟩
  have HG := Lib.hid hG
  clear h hl hv1 hm hlb hnv hnl x1 hr
  go_enter Try.func79, Try.ntmps79
  go_wp2_with fail
  refine (specVotes_as _ _ _ vs true _ HI.out V1.out).mono ?_
  rintro e w1 ⟨rfl, rfl⟩
  go_wp2_with fail
  refine (l6In_any _ _ _ _).mono ?_
  rintro e w' ⟨he, rfl⟩
  rw [HS.out] at he
  subst he
  go_wp2_with fail
  refine (specMeth_as m true _ HM.out).mono ?_
  rintro e w1 ⟨rfl, rfl⟩
  go_wp2_with fail
  refine (specLots_as _ _ _ lots true _ HL.out HLB.out).mono ?_
  rintro e w1 ⟨rfl, hd⟩
  have hsz : G ≤ w1.heap.size := by rw [← hG]; exact (hd.below w.heap.size).size
  have HB1 : Hid (Below G w w1) := hd.below _
  have HI1 := Lib.hid (HI.out.dr hd)
  have HL1 := Lib.hid (HL.out.dr hd)
  clear hd
  go_wp2_with (at_make; refine wpList_make_full _ rfl _ _ 23 rfl G 3 i0 (.int .i64 0) 1 Try.underlying23 hi hz0 hz1 .i64 .i64 _ _ n rfl rfl rfl rfl (by rw [hz2]; omega) (by unfold maxLen; omega) hsz ?_; intro w3 hown hgrow)
  have HB3 : Hid (Below G w w3) := HB1.out.grown hgrow hsz (fun k e => by cases e)
  obtain ⟨g3, c3, e3⟩ := owns_some hown (by omega)
  injection e3 with e3a _ e3b
  injection e3a with e3a
  injection e3a with e3c _ _
  subst e3b
  have O3 : Hid (w3.ownsRow G 3 1 (.slice (some ⟨w1.heap.size, 0, none⟩) n n) n ((seatsL vs m lots 0).map (Value.int .i64))) := by
    unfold Hid; show w3.ownsRow G _ 1 _ n ((List.replicate vs.length 0).map _); rw [HNV.out, ← zeros_made]; exact hown
  clear hown hgrow e3c
  go_wp2
  go_loopw [10, 11, 12] (fun ov iv _ wr => ∃ (k g c : Nat), k ≤ s ∧ iv = .int .i64 (k : Int) ∧ ov = .slice (some ⟨g, 0, none⟩) n c ∧ Hid (wr.ownsRow G 3 1 (.slice (some ⟨g, 0, none⟩) n c) n ((seatsL vs m lots k).map (Value.int .i64))) ∧ Hid (Below G w wr)) (fun _ iv _ _ => s - (intOf iv).toNat)
  case atStart => exact ⟨0, _, _, Nat.zero_le _, rfl, rfl, O3.out, HB3⟩
  case round =>
    clear O3 HB3 HB1 hsz
    obtain ⟨k, g, c, hk, rfl, rfl, hO, hB⟩ := hrel
    have hBw : Below w.heap.size w wr := HG.out.symm ▸ hB.out
    by_cases hlt : k < s
    · have HT := Lib.hid (totals_of HM.out HLB.out HEQ.out (show k ≤ 20 by omega))
      rw [HNV.out] at HT
      have IG := Lib.hid (IsInts.of_owned hO.out (by omega))
      have HRG := next_in (vs := vs) (gs := seatsL vs m lots k) HM.out HLB.out (HEQ.out.trans HNV.out) (by rw [seatsL_length, HNV.out]; exact HT.out)
      obtain ⟨x, hx⟩ : ∃ x, nextL (seV vs) (seV (seatsL vs m lots k)) m lots = x := ⟨_, rfl⟩
      rw [hx] at HRG
      have HSU : Hid (seatsL vs m lots (k + 1) = (seatsL vs m lots k).set x.toNat (seV (seatsL vs m lots k) x + 1)) := by rw [Hid, seatsL_succ, hx]
      obtain ⟨y, rfl⟩ := Int.eq_ofNat_of_zero_le HRG.1
      rw [Int.toNat_natCast, seV_nat] at HSU
      have hyn : y < n := by omega
      obtain ⟨gl, hgl⟩ : ∃ gl, seatsL vs m lots k = gl := ⟨_, rfl⟩
      have hgll : gl.length = n := by rw [← hgl, seatsL_length, HNV.out]
      have HX := Lib.hid hx
      rw [hgl] at HSU HT IG HX hO
      have bz := toB_at HT.out hyn
      obtain ⟨z, hz⟩ : ∃ z, gl[y]?.getD 0 = z := ⟨_, rfl⟩
      rw [hz] at bz HSU
      have HZ := Lib.hid hz
      have HGL := Lib.hid hgll
      clear hz hgl hx HRG hgll
      go_wp2_with fail
      refine (specNxt_as _ n _ vs _ _ gl m _ _ lots (y : Int) _ (HI.out.below hBw) IG.out (HL.out.below hBw) X1.out HT.out HM.out HLB.out HX.out).mono ?_
      rintro e w2 ⟨rfl, hd⟩
      have hB2 : Hid (Below G w w2) := hG ▸ (hBw.trans (hd.below _))
      have hO2 := Lib.hid (owns_under hO.out (hd.below _))
      have hsz2 : G ≤ w2.heap.size := by have := hB2.out.size; omega
      have hg2 : g < w2.heap.size := (hO2.out.lt g rfl).2
      have L1 : Hid ((gl.map (Value.int .i64)).length = n * 1) := by unfold Hid; rw [List.length_map, HGL.out]; omega
      have P1 : Hid (∀ j u, (gl.map (Value.int .i64))[j]? = some u → (w2.alloc (.cells #[] 3)).cell? ((⟨g, 0, none⟩ : Addr).add j) = some u) := by
        have := piece_rest (w := w2.alloc (.cells #[] 3)) (b := g) (off := 0) (len := n) (zs := gl) HGL.out (fun j hj => (((Below.refl w2.heap.size w2).alloc (Nat.le_refl _) _).cell (p := ⟨g, 0 + j, none⟩) hg2).trans (by rw [Nat.zero_add, hO2.out.cellAt j (by omega)]; simp [show j < gl.length by rw [HGL.out]; exact hj])) 0 0 (Nat.zero_le _) rfl
        rw [List.drop_zero] at this
        exact this
      have hE := Lib.hid (World.ownsRow_lit (base := G) (e := 3) (size := 1) w2 #[] 0 hsz2 (by unfold maxLen; omega) rfl)
      have hyc : (y : Int) < (n : Int) := by omega
      have M1 : 0 + n ≤ maxLen := by unfold maxLen; omega
      have N1 : (0 + n) * 8 ≤ 140737488355328 := by omega
      have S1 : G ≤ (w2.alloc (.cells #[] 3)).heap.size := by simp; omega
      clear hd hO hB hBw
      go_wp2_with (at_builtin; refine wpList_append_own _ rfl _ _ 23 rfl G 3 i0 (.int .i64 0) 1 8 Try.underlying23 hi hz0 hz1 hz2 rfl (by decide) _ _ _ rfl hE.out ⟨g, 0, none⟩ n c (gl.map (Value.int .i64)) rfl L1.out P1.out (ints_one _) M1 N1 S1 ?_; intro v' w4 hown' hgrow _; simp only [Nat.zero_add, List.nil_append] at hown'; obtain ⟨g4, c4, rfl⟩ := owns_some hown' hn1; have q0 := owns_int hown' HGL.out hyn HZ.out; have f0 : w4.frozen? ⟨g4, y, none⟩ = false := hown'.frozenAt y)
      have HB4 : Hid (Below G w w4) := (hB2.out.alloc hsz2 (.cells #[] 3)).grown hgrow S1 (fun j e => by
        have e : some w2.heap.size = some j := e
        injection e with e
        omega)
      have HO4 := Lib.hid hown'
      clear hown' hgrow L1 P1 hE M1 N1 S1
      have HST := Lib.hid (HO4.out.stored y (.int .i64 (z + 1)))
      have hg4 : G ≤ g4 := (HO4.out.lt g4 rfl).1
      have HO5 : Hid ((w4.setCell ⟨g4, y, none⟩ (.int .i64 (z + 1))).ownsRow G 3 1 (.slice (some ⟨g4, 0, none⟩) n c4) n ((seatsL vs m lots (k + 1)).map (Value.int .i64))) := by
        unfold Hid; rw [HSU.out, ← map_set_int]; exact HST.out.1
      have HB5 : Hid (Below G w (w4.setCell ⟨g4, y, none⟩ (.int .i64 (z + 1)))) := HB4.out.grown HST.out.2 (by have := HB4.out.size; omega) (fun j e => by cases e; exact hg4)
      clear HST HB4 HSU
      go_wp2
      go_roundw
      case rel => exact ⟨k + 1, g4, c4, by omega, by go_num, rfl, HO5, HB5⟩
      case measure => simp [intOf]; omega
    · obtain rfl : k = s := by omega
      have hrl : r.length = n := by rw [← HR.out, seatsL_length, HNV.out]
      have HRL := Lib.hid hrl
      clear hrl
      go_wp2
      go_ret2
      refine ⟨some ⟨g, 0, none⟩, c, by rw [HRL.out]; rfl, ?_, hBw⟩
      rw [HRL.out, ← HR.out, HG.out]
      exact hO.out

set_option maxHeartbeats 2000000 in
/-- **spec.SeatsDivisor**, at other arguments. -/
theorem specSeats_no (a : Option Addr) (n cap : Nat) (vs : List Int) (s m : Int) (al : Option Addr) (nl cl : Nat) (lots : List Int) (w : World) (h : IsInts w a n cap vs) (hl : IsInts w al nl cl lots) (hk : okD vs s m lots = false) :
    Calls Try.prog 79 #[.slice a n cap, .int .i64 s, .int .i64 m, .slice al nl cl] w (Told w [] false) := by
  have H1 := Lib.hid h
  have H3 := Lib.hid hl
  have hm1 := h.2.2.1
  have hm3 := hl.2.2.1
  obtain ⟨v1, hv1⟩ : ∃ v, voteB vs = v := ⟨_, rfl⟩
  obtain ⟨v2, hv2⟩ : ∃ v, inB s 0 20 = v := ⟨_, rfl⟩
  obtain ⟨v3, hv3⟩ : ∃ v, methB m = v := ⟨_, rfl⟩
  obtain ⟨v4, hv4⟩ : ∃ v, lotsB lots = v := ⟨_, rfl⟩
  have HO : Hid ((v1 && (v2 && (v3 && (v4 && decide (nl = n))))) = false) := by unfold Hid; rw [← hk]; unfold okD; rw [hv1, hv2, hv3, hv4, hl.1, h.1]
  have V1 := Lib.hid hv1
  have V2 := Lib.hid hv2
  have V3 := Lib.hid hv3
  have V4 := Lib.hid hv4
  have HT : Hid (∀ w1, Dr w w1 → Told w [] false (.returned (.tuple #[.slice (some ⟨w1.heap.size, 0, none⟩) 0 0, .bool false])) (w1.alloc (.cells #[] 3))) := fun w1 hd =>
    ⟨_, 0, rfl, World.ownsRow_lit w1 #[] 0 (hd.below w.heap.size).size (by unfold maxLen; omega) rfl, (hd.below _).alloc (hd.below w.heap.size).size _⟩
  clear h hl hv1 hv2 hv3 hv4 hk
  go_enter Try.func79, Try.ntmps79
  go_wp2_with fail
  refine (specVotes_as _ _ _ vs v1 _ H1.out V1.out).mono ?_
  rintro e w1 ⟨rfl, rfl⟩
  cases v1
  · go_wp2
    go_ret2
    exact HT.out _ (Dr.refl _)
  go_wp2_with fail
  refine (l6In_any _ _ _ _).mono ?_
  rintro e w' ⟨he, rfl⟩
  rw [V2.out] at he
  subst he
  cases v2
  · go_wp2
    go_ret2
    exact HT.out _ (Dr.refl _)
  go_wp2_with fail
  refine (specMeth_as m v3 _ V3.out).mono ?_
  rintro e w1 ⟨rfl, rfl⟩
  cases v3
  · go_wp2
    go_ret2
    exact HT.out _ (Dr.refl _)
  go_wp2_with fail
  refine (specLots_as _ _ _ lots v4 _ H3.out V4.out).mono ?_
  rintro e w1 ⟨rfl, hd⟩
  cases v4
  · go_wp2
    go_ret2
    exact HT.out _ hd
  have hll : ¬ nl = n := fun e => by have := HO.out; rw [decide_eq_true e] at this; cases this
  have hne : ((nl : Int) != (n : Int)) = true := by simp; omega
  go_wp2
  go_ret2
  exact HT.out _ hd

/-- **spec.SeatsDivisor**. -/
theorem specSeats_as (a : Option Addr) (n cap : Nat) (vs : List Int) (s m : Int) (al : Option Addr) (nl cl : Nat) (lots : List Int) (r : List Int) (v : Bool) (w : World) (h : IsInts w a n cap vs) (hl : IsInts w al nl cl lots) (hk : okD vs s m lots = v) (hr : divL vs s m lots = r) :
    Calls Try.prog 79 #[.slice a n cap, .int .i64 s, .int .i64 m, .slice al nl cl] w (Told w r v) := by
  cases v
  · rw [divL_no hk] at hr
    subst hr
    exact specSeats_no a n cap vs s m al nl cl lots w h hl hk
  · obtain ⟨h1, h2, h3, h4, h5⟩ := (okD_iff vs s m lots).1 hk
    obtain ⟨S, rfl⟩ := Int.eq_ofNat_of_zero_le h2.1
    have e : nl = n := by have := h.1; have := hl.1; omega
    subst e
    rw [divL, if_pos hk, Int.toNat_natCast] at hr
    exact specSeats_yes a nl cap vs S m al cl lots r w h hl h1 (by omega) h3 h4 hr

end Go.Proofs.Ytbcemgmfkddafaa

namespace Go.Proofs.Ytbcemgmfkddafaa
open Go.RowKit

attribute [local go_sem] Oper.semAt_some

theorem bool_info10 : (Try.prog.info? 4).map (fun i => (i.zero, i.size, i.bytes)) = some (some (.bool false), 1, 1) := by kernel_rfl
theorem boolsRow_is {w : World} {base n c : Nat} {a : Option Addr} {L : List Bool} (h : w.ownsRow base 4 1 (.slice a n c) n (L.map Value.bool)) (hl : L.length = n) (hn : n ≤ 1048600) : IsBools w a n c L := by
  rcases h.2 with ⟨e1, e0⟩ | ⟨g, c', cur, e1, hb, hg, hc1, hc2, _⟩
  · injection e1 with e1 _ e3
    subst e1 e3 e0
    exact ⟨hl, Nat.le_refl _, hn, fun hp => by omega⟩
  · injection e1 with e1 _ e3
    subst e1 e3
    refine ⟨hl, hc1, hn, fun hp => ⟨g, 0, rfl, (h.lt g rfl).2, fun j hj => ?_⟩⟩
    rw [Nat.zero_add, h.cellAt j (by omega)]
    simp [hl, hj]

set_option maxRecDepth 100000 in
set_option maxHeartbeats 2000000 in
/-- **l11All**. -/
theorem all11_as (n : Nat) (w : World) (hn : n ≤ 5) :
    Calls Try.prog 83 #[.int .i64 (n : Int)] w fun e w' => ∃ a c, e = .returned (.slice a n c) ∧ w'.ownsRow w.heap.size 4 1 (.slice a n c) n ((allL n).map Value.bool) ∧ Below w.heap.size w w' := by
  obtain ⟨i0, hi, hz0, hz1, hz2⟩ := info_parts bool_info10
  have HE0 := Lib.hid (World.ownsRow_lit (base := w.heap.size) (e := 4) (size := 1) w #[] 0 (Nat.le_refl _) (by unfold maxLen; omega) rfl)
  have HB0 : Below w.heap.size w (w.alloc (.cells #[] 4)) := (Below.refl _ w).alloc (Nat.le_refl _) _
  go_enter Try.func83, Try.ntmps83
  go_wp2
  go_loopw [3, 4] (fun rv iv wr => ∃ (k : Nat) (a : Option Addr) (cap : Nat), k ≤ n ∧ iv = .int .i64 (k : Int) ∧ rv = .slice a k cap ∧ Hid (wr.ownsRow w.heap.size 4 1 (.slice a k cap) k ((allL k).map Value.bool)) ∧ Below w.heap.size w wr) (fun _ iv _ => n - (intOf iv).toNat)
  case atStart => exact ⟨0, _, _, Nat.zero_le _, rfl, rfl, HE0.out, HB0⟩
  case round =>
    clear HE0 HB0
    obtain ⟨k, a, cap, hk, rfl, rfl, ho, hB⟩ := hrel
    by_cases hlt : k < n
    · go_wp2_with (at_builtin; refine wpList_append_own _ rfl _ _ 94 rfl w.heap.size 4 i0 (.bool false) 1 1 Try.underlying94 hi hz0 hz1 hz2 rfl (by decide) _ _ _ rfl (ho.out.alloc _) ⟨wr.heap.size, 0, none⟩ 1 1 [.bool true] rfl rfl (cell_one_new _ _ _) (by simp [Value.oneCell']) (by unfold maxLen; omega) (by omega) (by have := hB.size; simp; omega) ?_; intro v' w4 hown' hgrow _; obtain ⟨a4, cap4, rfl⟩ := owns_slice hown')
      have hrow : ∀ j, (Value.slice a k cap).ownBlock = some j → w.heap.size ≤ j := fun j ej => (ho.out.lt j ej).1
      have hB4 := (hB.alloc hB.size (.cells #[.bool true] 4)).grown hgrow (by have := hB.size; simp; omega) (fun j e => hrow j e)
      have HO4 : Hid (w4.ownsRow w.heap.size 4 1 (.slice a4 (k + 1) cap4) (k + 1) ((allL (k + 1)).map Value.bool)) := by
        unfold Hid; rw [allL, List.replicate_succ', List.map_append]; exact hown'
      clear hown' hgrow hrow
      go_wp2
      go_roundw
      case rel => exact ⟨k + 1, a4, cap4, by omega, by go_num, rfl, HO4.out, hB4⟩
      case measure => simp [intOf]; omega
    · obtain rfl : k = n := by omega
      go_wp2
      go_ret
      exact ⟨a, cap, rfl, ho.out, hB⟩

/-- What l11Most has found so far. -/
def mostTo (cs : List Int) (s : List Bool) (m : Int) (k : Nat) : List Bool := (List.range k).map fun i => s[i]?.getD false && (cs[i]?.getD 0 == m)
theorem mostTo_succ (cs : List Int) (s : List Bool) (m : Int) (k : Nat) : mostTo cs s m (k + 1) = mostTo cs s m k ++ [s[k]?.getD false && (cs[k]?.getD 0 == m)] := by simp [mostTo, List.range_succ]
theorem bestS_low (cs : List Int) (s : List Bool) : ∀ k, -1 ≤ bestS cs s k
  | 0 => by rw [bestS_zero]; omega
  | k + 1 => by rw [bestS_succ]; have := bestS_low cs s k; split <;> omega

set_option maxRecDepth 100000 in
set_option maxHeartbeats 4000000 in
/-- **l11Most**. -/
theorem most11_as (a : Option Addr) (n cap : Nat) (cs : List Int) (a' : Option Addr) (cap' : Nat) (s : List Bool) (w : World) (h : IsInts w a n cap cs) (h' : IsBools w a' n cap' s) (L : List Bool) (hL : mostL cs s = L) :
    Calls Try.prog 82 #[.slice a n cap, .slice a' n cap'] w fun e w' => ∃ a c, e = .returned (.slice a n c) ∧ w'.ownsRow w.heap.size 4 1 (.slice a n c) n (L.map Value.bool) ∧ Below w.heap.size w w' := by
  obtain ⟨i0, hi, hz0, hz1, hz2⟩ := info_parts bool_info10
  obtain ⟨h1, h2, h3, h4⟩ := h
  obtain ⟨g1, g2, g3, g4⟩ := id h'
  have H1 := Lib.hid h1
  have H4 := Lib.hid h4
  have G4 := Lib.hid g4
  have HL := Lib.hid hL
  clear h1 h4 g4 g1 hL h'
  go_enter Try.func82, Try.ntmps82
  go_wp2
  go_loop [5, 6] (fun bv iv => ∃ (i : Nat) (m : Int), i ≤ n ∧ iv = .int .i64 (i : Int) ∧ bv = .int .i64 m ∧ Hid (bestS cs s i = m)) (fun _ iv => n - (intOf iv).toNat)
  case atStart => exact ⟨0, -1, Nat.zero_le _, rfl, rfl, bestS_zero _ _⟩
  case round =>
    obtain ⟨i, m, hin, rfl, rfl, hM⟩ := hrel
    by_cases hlt : i < n
    · obtain ⟨b, off, rfl, hb, hc⟩ := H4.out (by omega)
      obtain ⟨b', off', rfl, hb', hc'⟩ := G4.out (by omega)
      have ci := hc i hlt
      have si := hc' i hlt
      obtain ⟨z, hz⟩ : ∃ z, cs[i]?.getD 0 = z := ⟨_, rfl⟩
      obtain ⟨u, hu⟩ : ∃ u, s[i]?.getD false = u := ⟨_, rfl⟩
      rw [hz] at ci
      rw [hu] at si
      have HN : Hid (bestS cs s (i + 1) = if u = true then max m z else m) := by rw [Hid, bestS_succ, hu, hz, hM.out]
      clear hc hc' hz hu
      cases u
      · have HN2 : Hid (bestS cs s (i + 1) = m) := by rw [Hid, HN.out]; rfl
        clear HN
        go_wp2
        go_round
        case rel => exact ⟨i + 1, m, by omega, by go_num, rfl, HN2⟩
        case measure => simp [intOf]; omega
      · by_cases hmz : m < z
        · have HN2 : Hid (bestS cs s (i + 1) = z) := by rw [Hid, HN.out, if_pos rfl]; omega
          clear HN
          go_wp2
          go_round
          case rel => exact ⟨i + 1, z, by omega, by go_num, by first | rfl | (congr 1; omega), HN2⟩
          case measure => simp [intOf]; omega
        · have HN2 : Hid (bestS cs s (i + 1) = m) := by rw [Hid, HN.out, if_pos rfl]; omega
          clear HN
          go_wp2
          go_round
          case rel => exact ⟨i + 1, m, by omega, by go_num, by first | rfl | (congr 1; omega), HN2⟩
          case measure => simp [intOf]; omega
    · obtain rfl : i = n := by omega
      have HL2 : Hid (mostTo cs s m i = L) := by rw [Hid, ← HL.out, mostL, H1.out, hM.out]; rfl
      have HE0 := Lib.hid (World.ownsRow_lit (base := w.heap.size) (e := 4) (size := 1) w #[] 0 (Nat.le_refl _) (by unfold maxLen; omega) rfl)
      have HB0 : Below w.heap.size w (w.alloc (.cells #[] 4)) := (Below.refl _ w).alloc (Nat.le_refl _) _
      go_wp2
      go_loopw [7, 8] (fun rv iv wr => ∃ (k : Nat) (a : Option Addr) (cap : Nat), k ≤ i ∧ iv = .int .i64 (k : Int) ∧ rv = .slice a k cap ∧ Hid (wr.ownsRow w.heap.size 4 1 (.slice a k cap) k ((mostTo cs s m k).map Value.bool)) ∧ Below w.heap.size w wr) (fun _ iv _ => i - (intOf iv).toNat)
      case atStart => exact ⟨0, _, _, Nat.zero_le _, rfl, rfl, HE0.out, HB0⟩
      case round =>
        clear HE0 HB0
        obtain ⟨k, ar, cr, hk, rfl, rfl, ho, hB⟩ := hrel
        by_cases hlt : k < i
        · obtain ⟨b, off, rfl, hb, hc⟩ := H4.out (by omega)
          obtain ⟨b', off', rfl, hb', hc'⟩ := G4.out (by omega)
          have ck : wr.cell? ⟨b, off + k, none⟩ = _ := (hB.cell (p := ⟨b, off + k, none⟩) hb).trans (hc k hlt)
          have sk : wr.cell? ⟨b', off' + k, none⟩ = _ := (hB.cell (p := ⟨b', off' + k, none⟩) hb').trans (hc' k hlt)
          obtain ⟨z, hz⟩ : ∃ z, cs[k]?.getD 0 = z := ⟨_, rfl⟩
          obtain ⟨u, hu⟩ : ∃ u, s[k]?.getD false = u := ⟨_, rfl⟩
          obtain ⟨q, hq⟩ : ∃ q, (z == m) = q := ⟨_, rfl⟩
          rw [hz] at ck
          rw [hu] at sk
          have HN : Hid (mostTo cs s m (k + 1) = mostTo cs s m k ++ [u && q]) := by rw [Hid, mostTo_succ, hu, hz, hq]
          clear hc hc' hz hu
          cases u
          · skip
            go_wp2_with (at_builtin; refine wpList_append_own _ rfl _ _ 94 rfl w.heap.size 4 i0 (.bool false) 1 1 Try.underlying94 hi hz0 hz1 hz2 rfl (by decide) _ _ _ rfl (ho.out.alloc _) ⟨wr.heap.size, 0, none⟩ 1 1 [.bool (false)] rfl rfl (cell_one_new _ _ _) (by simp [Value.oneCell']) (by unfold maxLen; omega) (by omega) (by have := hB.size; simp; omega) ?_; intro v' w4 hown' hgrow _; obtain ⟨a4, cap4, rfl⟩ := owns_slice hown')
            have hrow : ∀ j, (Value.slice ar k cr).ownBlock = some j → w.heap.size ≤ j := fun j ej => (ho.out.lt j ej).1
            have hB4 := (hB.alloc hB.size (.cells #[.bool (false)] 4)).grown hgrow (by have := hB.size; simp; omega) (fun j e => hrow j e)
            have HO4 : Hid (w4.ownsRow w.heap.size 4 1 (.slice a4 (k + 1) cap4) (k + 1) ((mostTo cs s m (k + 1)).map Value.bool)) := by
              unfold Hid; rw [HN.out, List.map_append]; exact hown'
            clear hown' hgrow hrow
            go_wp2
            go_roundw
            case rel => exact ⟨k + 1, a4, cap4, by omega, by go_num, rfl, HO4.out, hB4⟩
            case measure => simp [intOf]; omega
          · skip
            go_wp2_with (at_builtin; refine wpList_append_own _ rfl _ _ 94 rfl w.heap.size 4 i0 (.bool false) 1 1 Try.underlying94 hi hz0 hz1 hz2 rfl (by decide) _ _ _ rfl (ho.out.alloc _) ⟨wr.heap.size, 0, none⟩ 1 1 [.bool (q)] rfl rfl (cell_one_new _ _ _) (by simp [Value.oneCell']) (by unfold maxLen; omega) (by omega) (by have := hB.size; simp; omega) ?_; intro v' w4 hown' hgrow _; obtain ⟨a4, cap4, rfl⟩ := owns_slice hown')
            have hrow : ∀ j, (Value.slice ar k cr).ownBlock = some j → w.heap.size ≤ j := fun j ej => (ho.out.lt j ej).1
            have hB4 := (hB.alloc hB.size (.cells #[.bool (q)] 4)).grown hgrow (by have := hB.size; simp; omega) (fun j e => hrow j e)
            have HO4 : Hid (w4.ownsRow w.heap.size 4 1 (.slice a4 (k + 1) cap4) (k + 1) ((mostTo cs s m (k + 1)).map Value.bool)) := by
              unfold Hid; rw [HN.out, List.map_append]; exact hown'
            clear hown' hgrow hrow
            go_wp2
            go_roundw
            case rel => exact ⟨k + 1, a4, cap4, by omega, by go_num, rfl, HO4.out, hB4⟩
            case measure => simp [intOf]; omega
        · obtain rfl : k = i := by omega
          go_wp2
          go_ret
          exact ⟨ar, cr, rfl, by rw [← HL2.out]; exact ho.out, hB⟩

end Go.Proofs.Ytbcemgmfkddafaa

namespace Go.Proofs.Ytbcemgmfkddafaa
open Go.RowKit

/-- The worlds in which nothing that was in W has turned. -/
def Beh (W : World) : Type := { w : World // Below W.heap.size W w }
def Beh.w {W : World} (u : Beh W) : World := u.1
instance beh_some (W : World) : Nonempty (Beh W) := ⟨⟨W, Below.refl _ _⟩⟩
theorem Beh.below {W : World} (u : Beh W) : Below W.heap.size W u.w := u.2
theorem Beh.cell {W : World} {b o : Nat} {v : Value} (h : W.cell? ⟨b, o, none⟩ = some v) (hb : b < W.heap.size) (u : Beh W) : u.w.cell? ⟨b, o, none⟩ = some v := (u.below.cell (p := ⟨b, o, none⟩) hb).trans h
theorem wp_region_below {P : Program} {id : Nat} {Q : Exit → Act → World → Prop} {a : Act} {w : World} {l : List Oper} (hm : P.follows .mixedOrders = true) (hB : Region.lexB .any l.toArray = true)
    (h : wpQuiet P l.toArray (fun w' => ∃ u : Beh w, w' = u.w) (fun a' => ∀ w', (∃ u : Beh w, w' = u.w) → Q .normal a' w') l a) : (Code.region id l.toArray true).wp P Q a w :=
  wp_region_quiet (C := fun w' => ∃ u : Beh w, w' = u.w) hm hB ⟨⟨w.drew, (Below.refl _ _).drew⟩, rfl⟩ (by simpa using h)
theorem Calls.beh {P : Program} {f : FuncId} {args : Array Value} {W : World} {u : Beh W} {v : Value}
    (h : Calls P f args u.w fun e w' => e = .returned v ∧ Below u.w.heap.size u.w w') : Calls P f args u.w fun e w'' => e = .returned v ∧ ∃ u' : Beh W, w'' = u'.w :=
  h.mono fun _ w' ⟨he, hb⟩ => ⟨he, ⟨w', u.below.trans (hb.mono u.below.size)⟩, rfl⟩
theorem Calls.behDr {P : Program} {f : FuncId} {args : Array Value} {W : World} {u : Beh W} {v : Value}
    (h : Calls P f args u.w fun e w' => e = .returned v ∧ Dr u.w w') : Calls P f args u.w fun e w'' => e = .returned v ∧ ∃ u' : Beh W, w'' = u'.w :=
  Calls.beh (h.mono fun _ _ ⟨he, hd⟩ => ⟨he, hd.below _⟩)
theorem Calls.behSame {P : Program} {f : FuncId} {args : Array Value} {W : World} {u : Beh W} {v : Value}
    (h : Calls P f args u.w fun e w' => e = .returned v ∧ u.w = w') : Calls P f args u.w fun e w'' => e = .returned v ∧ ∃ u' : Beh W, w'' = u'.w :=
  Calls.beh (h.mono fun _ _ ⟨he, hd⟩ => ⟨he, by subst hd; exact Below.refl _ _⟩)

end Go.Proofs.Ytbcemgmfkddafaa

namespace Go.Proofs.Ytbcemgmfkddafaa
open Go.RowKit

theorem lt_alloc (w : World) (o : Obj) : w.heap.size < (w.alloc o).heap.size := by simp
theorem le_alloc (w : World) (o : Obj) : w.heap.size ≤ (w.alloc o).heap.size := by simp
/-- Block g holds two ints. -/
structure Two (w : World) (g : Nat) (x y : Int) : Prop where
  lt : g < w.heap.size
  c0 : w.cell? ⟨g, 0, none⟩ = some (.int .i64 x)
  c1 : w.cell? ⟨g, 1, none⟩ = some (.int .i64 y)
  f0 : w.frozen? ⟨g, 0, none⟩ = false
  f1 : w.frozen? ⟨g, 1, none⟩ = false
theorem Two.new (w : World) (x y : Int) (t : TypeId) : Two (w.alloc (.cells #[.int .i64 x, .int .i64 y] t)) w.heap.size x y :=
  ⟨by simp, (World.cell?_alloc_mark w _ t (0, 0) 0).trans rfl, (World.cell?_alloc_mark w _ t (0, 0) 1).trans rfl, (World.frozen?_alloc_mark w _ t 0 0 0).trans rfl, (World.frozen?_alloc_mark w _ t 0 0 1).trans rfl⟩
theorem Two.at {w : World} {g g' : Nat} {x y : Int} (h : Two w g x y) (e : g = g') : Two w g' x y := by subst e; exact h
theorem Two.keep {w w' : World} {B g : Nat} {x y : Int} (h : Two w g x y) (hb : Below B w w') (hg : g < B) : Two w' g x y :=
  ⟨Nat.lt_of_lt_of_le h.lt hb.size, (hb.cell (p := ⟨g, 0, none⟩) hg).trans h.c0, (hb.cell (p := ⟨g, 1, none⟩) hg).trans h.c1, (hb.frozen (p := ⟨g, 0, none⟩) hg).trans h.f0, (hb.frozen (p := ⟨g, 1, none⟩) hg).trans h.f1⟩
theorem Two.below {w w' : World} {g : Nat} {x y : Int} (h : Two w g x y) (hb : Below w.heap.size w w') : Two w' g x y := h.keep hb h.lt
theorem Two.alloc {w : World} {g : Nat} {x y : Int} (h : Two w g x y) (o : Obj) : Two (w.alloc o) g x y := h.below ((Below.refl _ w).alloc (Nat.le_refl _) _)
/-- What a store of two ints leaves. -/
theorem Two.set0 {w : World} {g : Nat} {x y : Int} (h : Two w g x y) (v : Value) : (w.setCell ⟨g, 0, none⟩ v).cell? ⟨g, 0, none⟩ = some v :=
  World.cell?_setCell_same' _ _ _ (by rw [h.c0]; rfl)
theorem Two.set1 {w : World} {g : Nat} {x y : Int} (h : Two w g x y) (u v : Value) : ((w.setCell ⟨g, 0, none⟩ u).setCell ⟨g, 1, none⟩ v).cell? ⟨g, 1, none⟩ = some v :=
  World.cell?_setCell_same' _ _ _ (by rw [World.cell?_setCell_other _ _ _ _ (by intro e; injection e with _ e2; exact absurd e2 (by decide)), h.c1]; rfl)

/-- Two arguments that were boxed at g and g + 1, and a result's block at g + 2. -/
structure Tri (g : Nat) (a1 a2 b1 b2 : Int) (w : World) : Prop where
  a : Two w g a1 a2
  b : Two w (g + 1) b1 b2
  r : Two w (g + 2) 0 0
theorem Tri.new (w : World) (a1 a2 b1 b2 : Int) (t t' t'' : TypeId) : Tri w.heap.size a1 a2 b1 b2 (((w.alloc (.cells #[.int .i64 a1, .int .i64 a2] t)).alloc (.cells #[.int .i64 b1, .int .i64 b2] t')).alloc (.cells #[.int .i64 0, .int .i64 0] t'')) :=
  ⟨((Two.new w a1 a2 t).alloc _).alloc _, ((Two.new (w.alloc _) b1 b2 t').alloc _).at (by simp), (Two.new ((w.alloc _).alloc _) 0 0 t'').at (by simp)⟩
theorem Tri.below {g : Nat} {a1 a2 b1 b2 : Int} {w w' : World} (h : Tri g a1 a2 b1 b2 w) (hb : Below w.heap.size w w') : Tri g a1 a2 b1 b2 w' := ⟨h.a.below hb, h.b.below hb, h.r.below hb⟩
theorem Tri.alloc {g : Nat} {a1 a2 b1 b2 : Int} {w : World} (h : Tri g a1 a2 b1 b2 w) (o : Obj) : Tri g a1 a2 b1 b2 (w.alloc o) := ⟨h.a.alloc o, h.b.alloc o, h.r.alloc o⟩
/-- Two arguments that were boxed at g and g + 1. -/
structure Duo (g : Nat) (a1 a2 b1 b2 : Int) (w : World) : Prop where
  a : Two w g a1 a2
  b : Two w (g + 1) b1 b2
theorem Duo.new (w : World) (a1 a2 b1 b2 : Int) (t t' : TypeId) : Duo w.heap.size a1 a2 b1 b2 ((w.alloc (.cells #[.int .i64 a1, .int .i64 a2] t)).alloc (.cells #[.int .i64 b1, .int .i64 b2] t')) :=
  ⟨(Two.new w a1 a2 t).alloc _, (Two.new (w.alloc _) b1 b2 t').at (by simp)⟩
theorem Duo.below {g : Nat} {a1 a2 b1 b2 : Int} {w w' : World} (h : Duo g a1 a2 b1 b2 w) (hb : Below w.heap.size w w') : Duo g a1 a2 b1 b2 w' := ⟨h.a.below hb, h.b.below hb⟩

theorem two_allocs (w : World) (o o' : Obj) : Below w.heap.size w ((w.alloc o).alloc o') := (((Below.refl _ w).alloc (Nat.le_refl _) _).alloc (by simp) _)
theorem three_allocs (w : World) (o o' o'' : Obj) : Below w.heap.size w (((w.alloc o).alloc o').alloc o'') := ((((Below.refl _ w).alloc (Nat.le_refl _) _).alloc (by simp) _).alloc (by simp; omega) _)
theorem below_drew {B : Nat} {w w' : World} (h : Below B w.drew w') : Below B w w' := ⟨h.os, h.tape, h.output, h.size, h.block⟩
/-- One call more. -/
theorem below_on {w w1 w2 : World} (h : Below w.heap.size w w1) (k : Below w1.heap.size w1 w2) : Below w.heap.size w w2 := h.trans (k.mono h.size)
theorem below_set2 {w w1 : World} {g : Nat} (h : Below w.heap.size w w1) (hg : w.heap.size ≤ g) (u v : Value) : Below w.heap.size w ((w1.setCell ⟨g, 0, none⟩ u).setCell ⟨g, 1, none⟩ v) := (h.setCell hg u).setCell hg v
theorem below_more {w w1 : World} (h : Below w.heap.size w w1) (o : Obj) : Below w.heap.size w (w1.alloc o) := below_on h ((Below.refl _ w1).alloc (Nat.le_refl _) o)

end Go.Proofs.Ytbcemgmfkddafaa

namespace Go.Proofs.Ytbcemgmfkddafaa
open Go.RowKit

attribute [local go_sem] Oper.semAt_some

set_option maxHeartbeats 2000000 in
/-- **l22Sum**. -/
theorem sum22_as (a : Option Addr) (len cap : Nat) (zs : List Int) (s : Int) (w : World) (h : IsInts w a len cap zs) (hl : len ≤ 20) (hb : ∀ x : Nat, x < len → 0 ≤ zs[x]?.getD 0 ∧ zs[x]?.getD 0 ≤ 100000) (hs : totI zs = s) :
    Calls Try.prog 58 #[.slice a len cap] w fun e w' => e = .returned (.int .i64 s) ∧ w = w' := by
  obtain ⟨h1, h2, h3, h4⟩ := h
  have H1 := Lib.hid h1
  have H4 := Lib.hid h4
  have HB := Lib.hid hb
  have HS := Lib.hid hs
  clear h1 h4 hb hs
  go_enter Try.func58, Try.ntmps58
  go_wp2
  go_loop [3, 4] (fun nv iv => ∃ (i : Nat) (t : Int), i ≤ len ∧ iv = .int .i64 (i : Int) ∧ nv = .int .i64 t ∧ Hid (totI (zs.take i) = t)) (fun _ iv => len - (intOf iv).toNat)
  case atStart => exact ⟨0, 0, Nat.zero_le _, rfl, rfl, by unfold Hid; simp [totI_nil]⟩
  case round =>
    obtain ⟨i, t, hil, rfl, rfl, hT⟩ := hrel
    by_cases hlt : i < len
    · obtain ⟨b, off, rfl, hb, hc⟩ := H4.out (by omega)
      have ci := hc i hlt
      obtain ⟨z, hz⟩ : ∃ z, zs[i]?.getD 0 = z := ⟨_, rfl⟩
      have hzb := HB.out i hlt
      have htb := tot_bound (m := 100000) (by omega) HB.out i (by omega)
      rw [hT.out] at htb
      rw [hz] at ci hzb
      have HT2 : Hid (totI (zs.take (i + 1)) = t + z) := by rw [Hid, tot_take (by rw [H1.out]; exact hlt), hz, hT.out]
      clear hc hz
      go_wp2
      go_round
      case rel => exact ⟨i + 1, t + z, by omega, by go_num, rfl, HT2⟩
      case measure => simp [intOf]; omega
    · obtain rfl : i = len := by omega
      have HE : Hid (t = s) := by rw [Hid, ← HS.out, ← hT.out, List.take_of_length_le (by rw [H1.out]; exact Nat.le_refl _)]
      go_wp2
      go_ret
      exact ⟨ret_int HE.out, rfl⟩

theorem take_next {l : List Int} {k : Nat} (h : k < l.length) : l.take (k + 1) = l.take k ++ [l[k]?.getD 0] := by
  rw [List.take_succ_eq_append_getElem h]; simp [h]
/-- How many seats are left, by what stands in memory. -/
def seatsIn (s : Int) (g n : Nat) (w : World) : Nat := (s - totI ((List.range n).map fun i => intOf ((w.cell? ⟨g, i, none⟩).getD undef))).toNat
theorem seatsIn_is {w : World} {base n g c : Nat} {xs : List Int} (s : Int) (h : w.ownsRow base 3 1 (.slice (some ⟨g, 0, none⟩) n c) n (xs.map (Value.int .i64))) (hl : xs.length = n) : seatsIn s g n w = (s - totI xs).toNat := by
  unfold seatsIn
  have e : ((List.range n).map fun i => intOf ((w.cell? ⟨g, i, none⟩).getD undef)) = xs := by
    refine List.ext_getElem (by simp [hl]) (fun i h1 h2 => ?_)
    rw [List.getElem_map, List.getElem_range, owns_int h hl (by omega) rfl]
    simp [intOf, h2]
  rw [e]

set_option maxRecDepth 100000 in
set_option maxHeartbeats 8000000 in
/-- **spec.SeatsRemainder**, at valid arguments. -/
theorem specRem_yes (a : Option Addr) (n cap : Nat) (vs : List Int) (s : Int) (al : Option Addr) (cl : Nat) (lots : List Int) (r : List Int) (w : World) (h : IsInts w a n cap vs) (hl : IsInts w al n cl lots) (hk : okR vs s lots = true) (hr : upL vs s lots (lfN vs s) = r) :
    Calls Try.prog 64 #[.slice a n cap, .int .i64 s, .slice al n cl] w (Told w r true) := by
  obtain ⟨i0, hi, hz0, hz1, hz2⟩ := info_parts int_info
  obtain ⟨k1, k2, k3, k4⟩ := (okR_iff vs s lots).1 hk
  have hnv := h.1
  have hn5 : n ≤ 5 := by have := (lotsB_len k3).2; omega
  have hn1 : 1 ≤ n := by have := (lotsB_len k3).1; omega
  have HI := Lib.hid h
  have HL := Lib.hid hl
  have HV := Lib.hid k1
  have HS := Lib.hid (inB_yes (x := s) (lo := 0) (hi := 20) (by omega) (by omega))
  have HLB := Lib.hid k3
  have HEQ := Lib.hid k4
  have HNV := Lib.hid hnv
  have HR := Lib.hid hr
  have HLF := Lib.hid (lf_is k1 k2)
  have x1 := ((voteB_iff vs).1 k1).1.1
  rw [hnv] at x1
  have HX1 : Hid (∀ x : Nat, x < n → 0 ≤ vs[x]?.getD 0 ∧ vs[x]?.getD 0 ≤ 100000) := fun x hx => by have := toB_at x1 hx; omega
  have hne : ((n : Int) != (n : Int)) = false := by simp
  obtain ⟨T, hT⟩ : ∃ T, totI vs = T := ⟨_, rfl⟩
  have HT := Lib.hid hT
  obtain ⟨G, hG⟩ : ∃ G, w.heap.size = G := ⟨_, rfl⟩
  have HG := Lib.hid hG
  clear h hl hk hr hnv k1 k3 k4 x1 hT
  go_enter Try.func64, Try.ntmps64
  go_wp2_with fail
  refine (specVotes_as _ _ _ vs true _ HI.out HV.out).mono ?_
  rintro e w1 ⟨rfl, rfl⟩
  go_wp2_with fail
  refine (l6In_any _ _ _ _).mono ?_
  rintro e w' ⟨he, rfl⟩
  rw [HS.out] at he
  subst he
  go_wp2_with fail
  refine (specLots_as _ _ _ lots true _ HL.out HLB.out).mono ?_
  rintro e w1 ⟨rfl, hd⟩
  have hsz : G ≤ w1.heap.size := by rw [← hG]; exact (hd.below w.heap.size).size
  have HB1 : Hid (Below G w w1) := hd.below _
  have hB3 : Hid (Below G w ((w1.alloc (.cells #[] 3)).alloc (.cells #[] 3))) := (HB1.out.alloc hsz _).alloc (by simp; omega) _
  have E1 := Lib.hid ((World.ownsRow_lit (base := G) (e := 3) (size := 1) w1 #[] 0 hsz (by unfold maxLen; omega) rfl).alloc (.cells #[] 3))
  have E2 := Lib.hid (World.ownsRow_lit (base := G) (e := 3) (size := 1) (w1.alloc (.cells #[] 3)) #[] 0 (by simp; omega) (by unfold maxLen; omega) rfl)
  have HI3 := Lib.hid (HI.out.below (HG.out.symm ▸ hB3.out))
  obtain ⟨p0, hp0⟩ : ∃ p0, w1.heap.size = p0 := ⟨_, rfl⟩
  have e1 : (w1.alloc (.cells #[] 3)).heap.size = p0 + 1 := by simp; omega
  rw [hp0] at E1
  rw [e1] at E2
  clear hd
  go_wp2_with fail
  refine (sum22_as _ n cap vs T _ HI3.out (by omega) HX1.out HT.out).mono ?_
  rintro e w4 ⟨rfl, rfl⟩
  go_wp2
  go_loopw [8, 9, 11] (fun ov rv iv wr => ∃ (k ga ca gb cb : Nat), k ≤ n ∧ iv = .int .i64 (k : Int) ∧ ov = .slice (some ⟨ga, 0, none⟩) k ca ∧ rv = .slice (some ⟨gb, 0, none⟩) k cb ∧ ga ≠ gb ∧ Hid (wr.ownsRow G 3 1 (.slice (some ⟨ga, 0, none⟩) k ca) k (((loL vs s).take k).map (Value.int .i64))) ∧ Hid (wr.ownsRow G 3 1 (.slice (some ⟨gb, 0, none⟩) k cb) k (((ovL vs s).take k).map (Value.int .i64))) ∧ Hid (Below G w wr)) (fun _ _ iv _ => n - (intOf iv).toNat)
  case atStart => exact ⟨0, _, _, _, _, Nat.zero_le _, rfl, rfl, rfl, by omega, E1, E2, hB3⟩
  case round =>
    clear E1 E2 hB3 HI3 e1 hp0 HB1 hsz
    obtain ⟨k, ga, ca, gb, cb, hkn, rfl, rfl, rfl, hab, hO, hP, hB⟩ := hrel
    have hBw : Below w.heap.size w wr := HG.out.symm ▸ hB.out
    by_cases hlt : k < n
    · obtain ⟨b, off, rfl, hb, hc⟩ := HI.out.2.2.2 (by omega)
      have ck := (hBw.cell (p := ⟨b, off + k, none⟩) hb).trans (hc k hlt)
      have hsi := share_in HV.out k2 (z := (k : Int)) (by omega) (by rw [HNV.out]; omega)
      rw [HT.out, seV_nat] at hsi
      have hlo : loF vs s (k : Int) = vs[k]?.getD 0 * s / T := by unfold loF lowI; rw [seV_nat, HT.out]
      have hov : ovF vs s (k : Int) = vs[k]?.getD 0 * s % T := by unfold ovF overI; rw [seV_nat, HT.out]
      have HLN : Hid ((loL vs s).take (k + 1) = (loL vs s).take k ++ [loF vs s (k : Int)]) := by rw [Hid, take_next (by rw [loL_length, HNV.out]; exact hlt), loL_at s (by rw [HNV.out]; exact hlt)]
      have HON : Hid ((ovL vs s).take (k + 1) = (ovL vs s).take k ++ [ovF vs s (k : Int)]) := by rw [Hid, take_next (by rw [ovL_length, HNV.out]; exact hlt), ovL_at s (by rw [HNV.out]; exact hlt)]
      obtain ⟨x, hx⟩ : ∃ x, loF vs s (k : Int) = x := ⟨_, rfl⟩
      obtain ⟨y, hy⟩ : ∃ y, ovF vs s (k : Int) = y := ⟨_, rfl⟩
      obtain ⟨z, hz⟩ : ∃ z, vs[k]?.getD 0 = z := ⟨_, rfl⟩
      rw [hx] at hsi hlo HLN
      rw [hy] at hsi hov HON
      rw [hz] at ck hsi hlo hov
      obtain ⟨q1, q2, q3, q4, q5, q6⟩ := hsi
      obtain ⟨p, hp⟩ : ∃ p, z * s = p := ⟨_, rfl⟩
      rw [hp] at q4 hlo hov
      have hw1 : IntKind.i64.wrap (z * s) = p := by rw [hp]; exact IntWalk.i64_in _ (by omega)
      have hTz : (T == 0) = false := beq_eq_false_iff_ne.2 (by omega)
      have hd : p.tdiv T = x := by rw [hlo]; exact Int.tdiv_eq_ediv_of_nonneg (by omega)
      have hr : p.tmod T = y := by rw [hov]; exact Int.tmod_eq_emod_of_nonneg (by omega)
      have hwx : IntKind.i64.wrap x = x := IntWalk.i64_in _ (by omega)
      have hwy : IntKind.i64.wrap y = y := IntWalk.i64_in _ (by omega)
      have hki : (k : Int) < (n : Int) := by omega
      have hsw : G ≤ wr.heap.size := by have := hB.out.size; omega
      have hgaw : ga < wr.heap.size := (hO.out.lt ga rfl).2
      have hgbw : gb < wr.heap.size := (hP.out.lt gb rfl).2
      have hgaG : G ≤ ga := (hO.out.lt ga rfl).1
      have hgbG : G ≤ gb := (hP.out.lt gb rfl).1
      have hbG : b < G := by omega
      clear hx hy hz hp hlo hov hc hBw
      go_wp2_with (first | (at_builtin; refine wpList_append_lies _ rfl _ _ 23 rfl G 3 i0 (.int .i64 0) 1 8 Try.underlying23 hi hz0 hz1 hz2 rfl (by decide) _ _ _ rfl (hP4.out.alloc _) ⟨w4.heap.size, 0, none⟩ 1 1 [.int .i64 y] rfl rfl (cell_one_new _ _ _) (by simp [Value.oneCell']) Nat.one_pos (by unfold maxLen; omega) (by omega) (by simp; omega) _ rfl ?_; intro g5 c5 w5 hown hgrow hat hg5) | (at_builtin; refine wpList_append_lies _ rfl _ _ 23 rfl G 3 i0 (.int .i64 0) 1 8 Try.underlying23 hi hz0 hz1 hz2 rfl (by decide) _ _ _ rfl (hO.out.alloc _) ⟨wr.heap.size, 0, none⟩ 1 1 [.int .i64 x] rfl rfl (cell_one_new _ _ _) (by simp [Value.oneCell']) Nat.one_pos (by unfold maxLen; omega) (by omega) (by simp; omega) _ rfl ?_; intro g4 c4 w4 hown hgrow hat hg4; have hB4 : Hid (Below G w w4) := (hB.out.alloc hsw _).grown hgrow (by simp; omega) (fun j e => by have e : some ga = some j := e; injection e with e; omega); have ck4 : w4.cell? ⟨b, off + k, none⟩ = some (.int .i64 z) := (hB4.out.cell (p := ⟨b, off + k, none⟩) hbG).trans ((hB.out.cell (p := ⟨b, off + k, none⟩) hbG).symm.trans ck); have hP4 := Lib.hid ((hP.out.alloc (.cells #[.int .i64 x] 3)).kept hgrow (.inr (fun e => by have e : some gb = some ga := e; injection e with e; exact hab e.symm))); have hsw4 : G ≤ w4.heap.size := Nat.le_trans hsw (Nat.le_trans (by simp) hgrow.size); have HAT := Lib.hid hat; have HO4 := Lib.hid hown; clear hown hgrow hat))
      have hg4b : g4 ≠ gb := by
        rcases HAT.out with e | e
        · have e : some ga = some g4 := e
          injection e with e; omega
        · rw [e]; simp; omega
      have hO4 : Hid (w4.ownsRow G 3 1 (.slice (some ⟨g4, 0, none⟩) (k + 1) c4) (k + 1) (((loL vs s).take (k + 1)).map (Value.int .i64))) := by
        unfold Hid; rw [HLN.out, List.map_append]; exact HO4.out
      have hg45 : g4 ≠ g5 := by
        rcases hat with e | e
        · have e : some gb = some g5 := e
          injection e with e; omega
        · rw [e]; simp; omega
      have hB5 : Hid (Below G w w5) := (hB4.out.alloc hsw4 _).grown hgrow (by simp; omega) (fun j e => by have e : some gb = some j := e; injection e with e; omega)
      have hP5 : Hid (w5.ownsRow G 3 1 (.slice (some ⟨g5, 0, none⟩) (k + 1) c5) (k + 1) (((ovL vs s).take (k + 1)).map (Value.int .i64))) := by
        unfold Hid; rw [HON.out, List.map_append]; exact hown
      have hO5 := Lib.hid ((hO4.out.alloc (.cells #[.int .i64 y] 3)).kept hgrow (.inr (fun e => by have e : some g4 = some gb := e; injection e with e; exact hg4b e)))
      clear hown hgrow hat hO4 hP4 hB4 ck4 HO4 HAT hO hP hB ck
      go_wp2
      go_roundw
      case rel => exact ⟨k + 1, g4, c4, g5, c5, by omega, by go_num, rfl, rfl, hg45, hO5, hP5, hB5⟩
      case measure => simp [intOf]; omega
    · obtain rfl : k = n := by omega
      have O6 : Hid (wr.ownsRow G 3 1 (.slice (some ⟨ga, 0, none⟩) k ca) k ((upL vs s lots 0).map (Value.int .i64))) := by
        have := hO.out
        rw [List.take_of_length_le (by rw [loL_length, HNV.out]; exact Nat.le_refl _), ← upL_zero vs s lots] at this
        exact this
      have P6 : Hid (wr.ownsRow G 3 1 (.slice (some ⟨gb, 0, none⟩) k cb) k ((reL vs s lots 0).map (Value.int .i64))) := by
        have := hP.out
        rw [List.take_of_length_le (by rw [ovL_length, HNV.out]; exact Nat.le_refl _), ← reL_zero vs s lots] at this
        exact this
      have hgaG : G ≤ ga := (hO.out.lt ga rfl).1
      have hgbG : G ≤ gb := (hP.out.lt gb rfl).1
      have HUP : Hid (∀ m, m ≤ lfN vs s → totI (upL vs s lots m) + ((lfN vs s - m : Nat) : Int) = s) := fun m hm => by
        have := up_tot HV.out k2 HLB.out HEQ.out hm
        have := HLF.out.1
        omega
      have HUI : Hid (∀ m, m ≤ lfN vs s → ∀ x : Nat, x < k → 0 ≤ (upL vs s lots m)[x]?.getD 0 ∧ (upL vs s lots m)[x]?.getD 0 ≤ 21) := fun m hm x hx => up_in HV.out k2 HLB.out HEQ.out hm (by rw [HNV.out]; exact hx)
      have HUL : Hid (∀ m, (upL vs s lots m).length = k) := fun m => by rw [upL_length]; exact HNV.out
      have HRL : Hid (∀ m, (reL vs s lots m).length = k) := fun m => by rw [reL_length]; exact HNV.out
      obtain ⟨L, hL⟩ : ∃ L, lfN vs s = L := ⟨_, rfl⟩
      have HLN := Lib.hid hL
      rw [hL] at HUP HUI
      have HMEM : Hid (∀ z ∈ lots, 0 ≤ z ∧ z < (k : Int)) := fun z hz => by
        have := lotsB_mem HLB.out z hz
        rw [HEQ.out, HNV.out] at this
        exact this
      clear hO hP hBw hL
      go_wp2
      go_loopw [12] (fun _ wr => ∃ (m : Nat), m ≤ L ∧ Hid (wr.ownsRow G 3 1 (.slice (some ⟨ga, 0, none⟩) k ca) k ((upL vs s lots m).map (Value.int .i64))) ∧ Hid (wr.ownsRow G 3 1 (.slice (some ⟨gb, 0, none⟩) k cb) k ((reL vs s lots m).map (Value.int .i64))) ∧ Hid (Below G w wr)) (fun _ wr => seatsIn s ga k wr)
      case atStart => exact ⟨0, Nat.zero_le _, O6, P6, hB⟩
      case round =>
        clear O6 P6 hB
        obtain ⟨m, hmL, hO, hP, hB⟩ := hrel
        have hBw : Below w.heap.size w wr := HG.out.symm ▸ hB.out
        have IO := Lib.hid (IsInts.of_owned hO.out (by omega))
        have IP := Lib.hid (IsInts.of_owned hP.out (by omega))
        have hU := HUP.out m hmL
        obtain ⟨S, hS⟩ : ∃ S, totI (upL vs s lots m) = S := ⟨_, rfl⟩
        rw [hS] at hU
        have HSS := Lib.hid hS
        have HBB : Hid (∀ x : Nat, x < k → 0 ≤ (upL vs s lots m)[x]?.getD 0 ∧ (upL vs s lots m)[x]?.getD 0 ≤ 100000) := fun x hx => by have := HUI.out m hmL x hx; omega
        clear hS
        go_wp2_with fail
        refine (sum22_as _ k ca (upL vs s lots m) S _ IO.out (by omega) HBB.out HSS.out).mono ?_
        rintro e w7 ⟨rfl, rfl⟩
        by_cases hlt : m < L
        · have hSs : decide (S < s) = true := decide_eq_true (by omega)
          have HPK : Hid (pickL lots (mostL (reL vs s lots m) (allL k)) = tpA vs s lots m) := by
            have := pick_top HV.out k2 HLB.out HEQ.out (k := m) (by rw [HLN.out]; exact hmL)
            rw [HNV.out] at this
            exact this
          obtain ⟨-, tp0, tp1⟩ := tp_in (vs := vs) (s := s) HLB.out HEQ.out m
          have HSU := up_step (vs := vs) (s := s) HLB.out HEQ.out m
          have HSR := re_step (vs := vs) (s := s) HLB.out HEQ.out m
          obtain ⟨p, hp⟩ : ∃ p, tpA vs s lots m = p := ⟨_, rfl⟩
          rw [hp] at tp0 tp1 HSU HSR HPK
          obtain ⟨q, rfl⟩ := Int.eq_ofNat_of_zero_le tp0
          rw [Int.toNat_natCast] at HSU HSR
          have hqn : q < k := by rw [← HNV.out]; omega
          have hub := HUI.out m hmL q hqn
          obtain ⟨z, hz⟩ : ∃ z, (upL vs s lots m)[q]?.getD 0 = z := ⟨_, rfl⟩
          rw [hz] at hub HSU
          have HZ := Lib.hid hz
          have HSU := Lib.hid HSU
          have HSR := Lib.hid HSR
          have hme : Hid (seatsIn s ga k wr = L - m) := by
            rw [Hid, seatsIn_is s hO.out (HUL.out m), HSS.out]; omega
          clear hz hp tp0 tp1
          go_wp2_with fail
          refine (all11_as k _ (by omega)).mono ?_
          rintro e w8 ⟨a8, c8, rfl, ho8, hb8⟩
          have IP8 := Lib.hid (IP.out.below hb8)
          have J8 := Lib.hid (boolsRow_is ho8 (by simp [allL]) (by omega))
          have HB8 := Lib.hid hb8
          clear ho8 hb8
          go_wp2_with fail
          refine (most11_as _ _ _ (reL vs s lots m) _ _ (allL k) _ IP8.out J8.out _ rfl).mono ?_
          rintro e w9 ⟨a9, c9, rfl, ho9, hb9⟩
          have J9 := Lib.hid (boolsRow_is ho9 (by rw [mostL_length]; exact HRL.out m) (by omega))
          have HB9 := Lib.hid (below_on HB8.out hb9)
          have HL9 := Lib.hid (HL.out.below (below_on hBw HB9.out))
          clear ho9 hb9
          go_wp2_with fail
          refine (l4First_any _ _ _ lots _ _ _ (mostL (reL vs s lots m) (allL k)) _ HL9.out J9.out HMEM.out).mono ?_
          rintro e w10 ⟨he, rfl⟩
          rw [HPK.out] at he
          subst he
          have O9 := Lib.hid (owns_under hO.out HB9.out)
          have P9 := Lib.hid (owns_under hP.out HB9.out)
          have B9 : Hid (Below G w w9) := hG ▸ below_on hBw HB9.out
          have cz := owns_int O9.out (HUL.out m) hqn HZ.out
          have fz : w9.frozen? ⟨ga, q, none⟩ = false := O9.out.frozenAt q
          have HST := Lib.hid (O9.out.stored q (.int .i64 (z + 1)))
          have O10 : Hid ((w9.setCell ⟨ga, q, none⟩ (.int .i64 (z + 1))).ownsRow G 3 1 (.slice (some ⟨ga, 0, none⟩) k ca) k ((upL vs s lots (m + 1)).map (Value.int .i64))) := by
            unfold Hid; rw [HSU.out, ← map_set_int]; exact HST.out.1
          have P10 := Lib.hid (P9.out.kept HST.out.2 (.inr (fun e => by have e : some gb = some ga := e; injection e with e; exact hab e.symm)))
          have cy := owns_int P10.out (HRL.out m) hqn rfl
          have fy : (w9.setCell ⟨ga, q, none⟩ (.int .i64 (z + 1))).frozen? ⟨gb, q, none⟩ = false := P10.out.frozenAt q
          have HSV := Lib.hid (P10.out.stored q (.int .i64 (-1)))
          have P11 : Hid (((w9.setCell ⟨ga, q, none⟩ (.int .i64 (z + 1))).setCell ⟨gb, q, none⟩ (.int .i64 (-1))).ownsRow G 3 1 (.slice (some ⟨gb, 0, none⟩) k cb) k ((reL vs s lots (m + 1)).map (Value.int .i64))) := by
            unfold Hid; rw [HSR.out, ← map_set_int]; exact HSV.out.1
          have O11 := Lib.hid (O10.out.kept HSV.out.2 (.inr (fun e => by have e : some ga = some gb := e; injection e with e; exact hab e)))
          have B11 : Hid (Below G w ((w9.setCell ⟨ga, q, none⟩ (.int .i64 (z + 1))).setCell ⟨gb, q, none⟩ (.int .i64 (-1)))) := (B9.out.setCell (p := ⟨ga, q, none⟩) hgaG _).setCell (p := ⟨gb, q, none⟩) hgbG _
          have hms : Hid (seatsIn s ga k ((w9.setCell ⟨ga, q, none⟩ (.int .i64 (z + 1))).setCell ⟨gb, q, none⟩ (.int .i64 (-1))) = L - (m + 1)) := by
            have := HUP.out (m + 1) (by omega)
            rw [Hid, seatsIn_is s O11.out (HUL.out (m + 1))]; omega
          have hqi : (q : Int) < (k : Int) := by omega
          clear HST HSV O9 P9 B9 O10 P10 hO hP hB hBw IO IP IP8 J8 J9 HB8 HB9 HL9
          go_wp2
          go_roundw
          case rel => exact ⟨m + 1, by omega, O11, P11, B11⟩
          case measure => rw [hms.out, hme.out]; omega
        · obtain rfl : m = L := by omega
          have hSs : decide (S < s) = false := decide_eq_false (by omega)
          have HRE : Hid (upL vs s lots m = r) := by rw [Hid, ← HLN.out]; exact HR.out
          have hrl : r.length = k := by rw [← HRE.out]; exact HUL.out m
          have HRLL := Lib.hid hrl
          clear hrl
          go_wp2
          go_ret2
          refine ⟨some ⟨ga, 0, none⟩, ca, by rw [HRLL.out]; rfl, ?_, hBw⟩
          rw [HRLL.out, ← HRE.out, HG.out]
          exact hO.out

set_option maxHeartbeats 2000000 in
/-- **spec.SeatsRemainder**, at other arguments. -/
theorem specRem_no (a : Option Addr) (n cap : Nat) (vs : List Int) (s : Int) (al : Option Addr) (nl cl : Nat) (lots : List Int) (w : World) (h : IsInts w a n cap vs) (hl : IsInts w al nl cl lots) (hk : okR vs s lots = false) :
    Calls Try.prog 64 #[.slice a n cap, .int .i64 s, .slice al nl cl] w (Told w [] false) := by
  have HI := Lib.hid h
  have HL := Lib.hid hl
  have hnv := h.1
  have hnl := hl.1
  obtain ⟨v1, hv1⟩ : ∃ v, inB s 0 20 = v := ⟨_, rfl⟩
  obtain ⟨v2, hv2⟩ : ∃ v, voteB vs = v := ⟨_, rfl⟩
  obtain ⟨v3, hv3⟩ : ∃ v, lotsB lots = v := ⟨_, rfl⟩
  have V1 := Lib.hid hv1
  have V2 := Lib.hid hv2
  have V3 := Lib.hid hv3
  have HK : Hid ((v2 && (v1 && (v3 && decide (nl = n)))) = false) := by
    unfold Hid; rw [← hk, ← hv1, ← hv2, ← hv3, ← hnv, ← hnl]; rfl
  have HT : Hid (∀ w1, Below w.heap.size w w1 → Told w [] false (.returned (.tuple #[.slice (some ⟨w1.heap.size, 0, none⟩) 0 0, .bool false])) (w1.alloc (.cells #[] 3))) := fun w1 hb =>
    ⟨some ⟨w1.heap.size, 0, none⟩, 0, rfl, World.ownsRow_lit w1 #[] 0 hb.size (by unfold maxLen; omega) rfl, hb.alloc hb.size _⟩
  have hm1 := h.2.2.1
  have hm2 := hl.2.2.1
  clear h hl hk hv1 hv2 hv3 hnv hnl
  go_enter Try.func64, Try.ntmps64
  go_wp2_with fail
  refine (specVotes_as _ _ _ vs v2 _ HI.out V2.out).mono ?_
  rintro e w1 ⟨rfl, rfl⟩
  cases v2
  · go_wp2
    go_ret2
    exact HT.out _ (Below.refl _ _)
  go_wp2_with fail
  refine (l6In_any _ _ _ _).mono ?_
  rintro e w' ⟨he, rfl⟩
  rw [V1.out] at he
  subst he
  cases v1
  · go_wp2
    go_ret2
    exact HT.out _ (Below.refl _ _)
  go_wp2_with fail
  refine (specLots_as _ _ _ lots v3 _ HL.out V3.out).mono ?_
  rintro e w1 ⟨rfl, hd⟩
  have HD : Hid (Below w.heap.size w w1) := hd.below _
  clear hd
  cases v3
  · go_wp2
    go_ret2
    exact HT.out _ HD.out
  have hnn : ¬ nl = n := by have := HK.out; simpa using this
  have hne : ((nl : Int) != (n : Int)) = true := by simp; omega
  clear hnn
  go_wp2
  go_ret2
  exact HT.out _ HD.out

/-- **spec.SeatsRemainder**. -/
theorem specRem_as (a : Option Addr) (n cap : Nat) (vs : List Int) (s : Int) (al : Option Addr) (nl cl : Nat) (lots : List Int) (r : List Int) (v : Bool) (w : World) (h : IsInts w a n cap vs) (hl : IsInts w al nl cl lots) (hk : okR vs s lots = v) (hr : remL vs s lots = r) :
    Calls Try.prog 64 #[.slice a n cap, .int .i64 s, .slice al nl cl] w (Told w r v) := by
  cases v
  · have e : r = [] := by rw [← hr, remL, if_neg (by rw [hk]; decide)]
    subst e
    exact specRem_no a n cap vs s al nl cl lots w h hl hk
  · obtain ⟨-, -, -, h5⟩ := (okR_iff vs s lots).1 hk
    have e : nl = n := by have := h.1; have := hl.1; omega
    subst e
    rw [remL, if_pos hk] at hr
    exact specRem_yes a nl cap vs s al cl lots r w h hl hk hr

end Go.Proofs.Ytbcemgmfkddafaa

namespace Go.Proofs.Ytbcemgmfkddafaa
open Go.RowKit

set_option maxHeartbeats 2000000 in
/-- **sumOf**. -/
theorem lawSum_as (a : Option Addr) (len cap : Nat) (zs : List Int) (s : Int) (w : World) (h : IsInts w a len cap zs) (hl : len ≤ 20) (hb : ∀ x : Nat, x < len → 0 ≤ zs[x]?.getD 0 ∧ zs[x]?.getD 0 ≤ 100000) (hs : totI zs = s) :
    Calls Try.prog 18 #[.slice a len cap] w fun e w' => e = .returned (.int .i64 s) ∧ w = w' := by
  obtain ⟨h1, h2, h3, h4⟩ := h
  have H1 := Lib.hid h1
  have H4 := Lib.hid h4
  have HB := Lib.hid hb
  have HS := Lib.hid hs
  clear h1 h4 hb hs
  go_enter Try.func18, Try.ntmps18
  go_wp2
  go_loop [3, 4] (fun nv iv => ∃ (i : Nat) (t : Int), i ≤ len ∧ iv = .int .i64 (i : Int) ∧ nv = .int .i64 t ∧ Hid (totI (zs.take i) = t)) (fun _ iv => len - (intOf iv).toNat)
  case atStart => exact ⟨0, 0, Nat.zero_le _, rfl, rfl, by unfold Hid; simp [totI_nil]⟩
  case round =>
    obtain ⟨i, t, hil, rfl, rfl, hT⟩ := hrel
    by_cases hlt : i < len
    · obtain ⟨b, off, rfl, hb, hc⟩ := H4.out (by omega)
      have ci := hc i hlt
      obtain ⟨z, hz⟩ : ∃ z, zs[i]?.getD 0 = z := ⟨_, rfl⟩
      have hzb := HB.out i hlt
      have htb := tot_bound (m := 100000) (by omega) HB.out i (by omega)
      rw [hT.out] at htb
      rw [hz] at ci hzb
      have HT2 : Hid (totI (zs.take (i + 1)) = t + z) := by rw [Hid, tot_take (by rw [H1.out]; exact hlt), hz, hT.out]
      clear hc hz
      go_wp2
      go_round
      case rel => exact ⟨i + 1, t + z, by omega, by go_num, rfl, HT2⟩
      case measure => simp [intOf]; omega
    · obtain rfl : i = len := by omega
      have HE : Hid (t = s) := by rw [Hid, ← HS.out, ← hT.out, List.take_of_length_le (by rw [H1.out]; exact Nat.le_refl _)]
      go_wp2
      go_ret
      exact ⟨ret_int HE.out, rfl⟩

end Go.Proofs.Ytbcemgmfkddafaa

namespace Go.Proofs.Ytbcemgmfkddafaa
open Go.RowKit

set_option maxHeartbeats 1000000 in
/-- **sameInts**: whether two lists are equal. -/
theorem sameInts_any (a : Option Addr) (len cap : Nat) (zs : List Int) (b : Option Addr) (len' cap' : Nat) (ys : List Int) (w : World) (h : IsInts w a len cap zs) (h' : IsInts w b len' cap' ys) :
    Calls Try.prog 27 #[.slice a len cap, .slice b len' cap'] w fun e w' => e = .returned (.bool (eqB zs ys)) ∧ Dr w w' := by
  by_cases hl : len = len'
  · subst hl
    have hne : ((len : Int) != (len : Int)) = false := by simp
    have hm := h.2.2.1
    have H := Lib.hid h; clear h
    have H' := Lib.hid h'; clear h'
    go_enter Try.func27, Try.ntmps27
    go_wp2
    go_loopw [5] (fun i wr => ∃ k : Nat, k ≤ len ∧ i = .int .i64 k ∧ Hid (zs.take k = ys.take k) ∧ Dr w wr) (fun i _ => len - (intOf i).toNat)
    case atStart => exact ⟨0, Nat.zero_le _, rfl, by simp [Hid], Dr.refl _⟩
    case round =>
      obtain ⟨k, hk, rfl, ht, hd⟩ := hrel
      obtain ⟨h1, _, _, h4⟩ := H.out.dr hd
      obtain ⟨g1, _, _, g4⟩ := H'.out.dr hd
      have H1 := Lib.hid h1; clear h1
      have G1 := Lib.hid g1; clear g1
      by_cases hlt : k < len
      · obtain ⟨b1, o1, rfl, hb1, hc1⟩ := h4 (by omega)
        obtain ⟨b2, o2, rfl, hb2, hc2⟩ := g4 (by omega)
        have hz := hc1 k hlt
        have hy := hc2 k hlt
        clear hc1 hc2 h4 g4
        cases he : (zs[k]?.getD 0 == ys[k]?.getD 0)
        · have hn : (zs[k]?.getD 0 != ys[k]?.getD 0) = true := by simp [bne, he]
          have HE := Lib.hid he; clear he
          go_wp2
          go_quiet (fail)
          go_wp2
          go_ret
          exact ⟨ret_bool (take_part zs ys k HE.out).symm, hd.drewN _⟩
        · have hn : (zs[k]?.getD 0 != ys[k]?.getD 0) = false := by simp [bne, he]
          have HE := Lib.hid he; clear he
          go_wp2
          go_quiet (fail)
          go_wp2
          go_roundw
          case rel => exact ⟨k + 1, by omega, by go_num, take_step zs ys k (by rw [H1.out]; omega) (by rw [G1.out]; omega) ht.out (by simpa using HE.out), hd.drewN _⟩
          case measure => simp [intOf]; omega
      · obtain rfl : k = len := by omega
        clear h4 g4
        go_wp2
        go_ret
        refine ⟨ret_bool ?_, hd⟩
        have := ht.out
        rw [List.take_of_length_le (by rw [H1.out]; omega), List.take_of_length_le (by rw [G1.out]; omega)] at this
        rw [this, eqB_self]
  · have hne : ((len : Int) != (len' : Int)) = true := by rw [bne_iff_ne]; omega
    have e : eqB zs ys = false := by
      simp only [eqB, decide_eq_false_iff_not]
      rintro rfl
      exact hl (h.1.symm.trans h'.1)
    rw [e]
    clear e h h' hl
    go_enter Try.func27, Try.ntmps27
    go_wp2
    go_ret
    exact ⟨rfl, Dr.refl _⟩

end Go.Proofs.Ytbcemgmfkddafaa
