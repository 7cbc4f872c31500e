/-
  spec.PairTop: for every list of piles and every number of candidates, in memory of the call's own.
  spec.PairBest: for every list of piles and every number of candidates, in memory of the call's own.
-/
import Derived.Test.YtaaamidkfhabnaaWinsS
import Derived.Test.YtaaamidkfhabnaaGrp8
import Derived.Test.YtaaamidkfhabnaaReachS
import Derived.Test.YtaaamidkfhabnaaPathsS
namespace Go.Proofs.Ytaaamidkfhabnaa
open Go.RowKit

attribute [local go_sem] Oper.semAt_some

set_option maxRecDepth 100000 in
set_option maxHeartbeats 8000000 in
/-- **spec.PairTop**. -/
theorem specPairTop_as (a : Option Addr) (len cap : Nat) (ps : List Pl) (n : Int) (r : List Int) (w : World) (h : IsPiles w a len cap ps) (hs : Small ps) (hr : ptopF ps n = r) :
    Calls Try.prog 27 #[.slice a len cap, .int .i64 n] w fun e w' => ∃ a' cap', e = .returned (.slice a' r.length cap') ∧ w'.ownsRow w.heap.size 3 1 (.slice a' r.length cap') r.length (r.map (Value.int .i64)) ∧ Below w.heap.size w w' := by
  obtain ⟨i0, hi, hz0, hz1, hz2⟩ := info_parts int_info
  have HI := Lib.hid h
  have HS := Lib.hid hs
  have HR := Lib.hid hr
  clear h hs hr
  obtain ⟨G0, hG⟩ : ∃ G, w.heap.size = G := ⟨_, rfl⟩
  have HE0 : Hid ((w.alloc (.cells #[] 3)).ownsRow G0 3 1 (.slice (some ⟨w.heap.size, 0, none⟩) 0 0) 0 []) := World.ownsRow_lit (base := G0) (e := 3) (size := 1) w #[] 0 (by omega) (by unfold maxLen; omega) rfl
  have HB0 : Below G0 w (w.alloc (.cells #[] 3)) := (Below.refl G0 w).alloc (by omega) _
  obtain ⟨W0, hW0⟩ : ∃ W0, w.alloc (.cells #[] 3) = W0 := ⟨_, rfl⟩
  rw [hW0] at HE0 HB0
  have IW := Lib.hid (HI.out.below (hG.symm ▸ HB0))
  have hgw : G0 ≤ W0.heap.size := by have := HB0.size; rw [hG] at this; exact this
  cases hv : fitsB ps n
  · have e : Hid (r = []) := by rw [Hid, ← HR.out, ptopF, hv]; rfl
    have HV := Lib.hid hv; clear hv
    go_enter Try.func27, Try.ntmps27
    go_wp2_with fail
    refine (specFits_as _ len cap ps n false _ IW.out HS.out HV.out).mono ?_
    rintro e1 w1 ⟨rfl, hb1⟩
    go_wp2
    go_ret
    exact ⟨_, _, by rw [e.out]; rfl, by rw [e.out, hG]; have := owns_under HE0.out hb1; rw [hG] at this; exact this, hG.symm ▸ HB0.trans (hb1.mono hgw)⟩
  · obtain ⟨hp, hn1, hn5, -⟩ := fits_parts hv
    obtain ⟨N, rfl⟩ : ∃ N : Nat, n = (N : Int) := ⟨n.toNat, by omega⟩
    have e : Hid (r = candTo (ptopB (pairF ps) N) N) := by rw [Hid, ← HR.out, ptopF, hv]; rfl
    have HV := Lib.hid hv
    have HP := Lib.hid hp
    clear hv hp
    have hN1 : 1 ≤ N := by omega
    have hN5 : N ≤ 5 := by omega
    go_enter Try.func27, Try.ntmps27
    go_wp2_with fail
    refine (specFits_as _ len cap ps (N : Int) true _ IW.out HS.out HV.out).mono ?_
    rintro e1 w1 ⟨rfl, hb1⟩
    have I1 := Lib.hid (IW.out.below hb1)
    have O1 := Lib.hid (owns_under HE0.out hb1)
    have B1 := Lib.hid (HB0.trans (hb1.mono hgw))
    clear hb1 hgw HE0 HB0 IW
    go_wp2_with fail
    refine (l13Counts_any _ len cap ps N _ I1.out HS.out HP.out hN1 hN5).mono ?_
    rintro e1 w2 ⟨am, cm, G, C, rfl, hT, hb2⟩
    obtain ⟨gm, rfl, hgm, hgl, -⟩ := hT.head (by omega)
    have T2 := Lib.hid hT
    have O2 := Lib.hid (owns_under O1.out hb2)
    have B2 := Lib.hid (B1.out.trans (hb2.mono (by have := B1.out.size; rw [hG] at this; exact this)))
    clear hT hb2 hgm
    go_wp2_with fail
    refine (l13Reach_any N _ gm cm G C (pairF ps) _ T2.out hN1 hN5).mono ?_
    rintro e1 w3 ⟨ar, cr, G2, C2, rfl, hT, hb3⟩
    obtain ⟨gr, rfl, hgm, hgl2, -⟩ := hT.head (by omega)
    have T3 := Lib.hid hT
    have O3 : Hid (w3.ownsRow G0 3 1 (.slice (some ⟨w.heap.size, 0, none⟩) 0 0) 0 ((candTo (ptopB (pairF ps) N) 0).map (Value.int .i64))) := owns_under O2.out hb3
    have B3 := Lib.hid (B2.out.trans (hb3.mono (by have := B2.out.size; rw [hG] at this; exact this)))
    have L3 : (w.heap.size : Nat) < w2.heap.size := by
      have := (O2.out.lt w.heap.size rfl).2; exact this
    clear hT hb3 hgm O1 O2
    go_wp2
    obtain ⟨gg, hgg⟩ : ∃ gg, w.heap.size = gg := ⟨_, rfl⟩
    go_loopw [5, 7, 8, 9] (fun rv xv _ _ wr => ∃ (x : Nat) (ao : Option Addr) (co : Nat) (l : List Int), x ≤ N ∧ xv = .int .i64 (x : Int) ∧ rv = .slice ao l.length co ∧ l.length ≤ x ∧ Hid (candTo (ptopB (pairF ps) N) x = l) ∧ ((l = [] ∧ ao = some ⟨G0, 0, none⟩ ∧ co = 0) ∨ Hid (wr.ownsRow w3.heap.size 3 1 (.slice ao l.length co) l.length (l.map (Value.int .i64)))) ∧ Below w3.heap.size w3 wr) (fun _ xv _ _ _ => N - (intOf xv).toNat)
    case atStart => exact ⟨0, _, _, [], Nat.zero_le _, rfl, rfl, Nat.le_refl _, rfl, .inl ⟨rfl, rfl, rfl⟩, Below.refl _ _⟩
    case round =>
      rename World => wx
      obtain ⟨x, ao, co, l, hx, rfl, rfl, hll, hL, hO, hB⟩ := hrel
      have hT := Lib.hid (T3.out.under hB)
      by_cases hlt : x < N
      · go_wp2
        go_loopw [8, 9] (fun av yv wr => ∃ (y : Nat) (u : Bool), y ≤ N ∧ yv = .int .i64 (y : Int) ∧ av = .bool u ∧ Hid (allTo (fun y => reachL (pairF ps) N x y) y = u) ∧ Dr wx wr) (fun _ yv _ => N - (intOf yv).toNat)
        case atStart => exact ⟨0, true, Nat.zero_le _, rfl, rfl, rfl, Dr.refl _⟩
        case round =>
          obtain ⟨y, u, hy, rfl, rfl, hA2, hd2⟩ := hrel
          have T5 := hT.out.under (hd2.below _)
          by_cases hlt2 : y < N
          ·
            have rx := T5.row_cell hlt (Nat.le_refl _)
            have cxy := T5.cell hlt hlt2
            obtain ⟨gx, hgx⟩ : ∃ gx, G2 x = gx := ⟨_, rfl⟩
            obtain ⟨cx, hcx⟩ : ∃ cx, C2 x = cx := ⟨_, rfl⟩
            rw [hgx] at rx cxy
            rw [hcx] at rx
            obtain ⟨v, hv⟩ : ∃ v, reachL (pairF ps) N x y = v := ⟨_, rfl⟩
            simp only [hv] at cxy
            have HV2 := Lib.hid hv
            clear hgx hcx hv T5
            cases u
            · go_wp2
              go_roundw
              case rel => exact ⟨y + 1, false, by omega, by go_num, rfl, by unfold Hid; rw [allTo_succ, hA2.out]; rfl, hd2⟩
              case measure => simp [intOf]; omega
            · go_wp2
              go_roundw
              case rel => exact ⟨y + 1, v, by omega, by go_num, rfl, by unfold Hid; rw [allTo_succ, hA2.out, HV2.out]; rfl, hd2⟩
              case measure => simp [intOf]; omega
          · obtain rfl : y = N := by omega
            have HBX : Hid (ptopB (pairF ps) y x = u) := hA2.out
            have hB5 := hB.trans (hd2.below w3.heap.size)
            have hO5 : (l = [] ∧ ao = some ⟨G0, 0, none⟩ ∧ co = 0) ∨ Hid (wr.ownsRow w3.heap.size 3 1 (.slice ao l.length co) l.length (l.map (Value.int .i64))) := hO.imp id fun h => owns_under h.out (hd2.below _)
            clear hA2 hO hT hB T5 hd2
            rename World => w6
            cases u
            · go_wp2
              go_roundw
              case rel => exact ⟨x + 1, ao, co, l, by omega, by go_num, rfl, by omega, by unfold Hid; rw [candTo_no HBX.out]; exact hL.out, hO5, hB5⟩
              case measure => simp [intOf]; omega
            · have hBs := hB5.size
              have HL4 : Hid (candTo (ptopB (pairF ps) y) (x + 1) = l ++ [(x : Int)]) := by unfold Hid; rw [candTo_yes HBX.out, hL.out]
              rcases hO5 with ⟨rfl, rfl, rfl⟩ | hO5
              · have hz : ([] : List Int).length = 0 := rfl
                rw [hz]
                go_wp2_with (at_builtin; refine wpList_append_grows _ rfl _ _ 30 rfl 3 i0 (.int .i64 0) 1 8 Try.underlying30 hi hz0 hz1 hz2 rfl Nat.one_pos (some ⟨G0, 0, none⟩) 0 0 [] rfl (by intro h; cases h) rfl (by intro b _ j u h; simp at h) ⟨w6.heap.size, 0, none⟩ 1 1 [.int .i64 (x : Int)] rfl rfl (cell_one_new _ _ _) (by simp [Value.oneCell']) (by omega) (by unfold maxLen; omega) (by omega) ?_; intro v' w4 hown' hgrow; obtain ⟨a4, cap4, rfl⟩ := owns_slice hown')
                have hB4 : Below w3.heap.size w3 w4 := (hB5.alloc hBs (.cells #[.int .i64 (x : Int)] 3)).grown hgrow (by simp; omega) (fun j e => by cases e)
                have HO4 : Hid (w4.ownsRow w3.heap.size 3 1 (.slice a4 (([] : List Int) ++ [(x : Int)]).length cap4) (([] : List Int) ++ [(x : Int)]).length ((([] : List Int) ++ [(x : Int)]).map (Value.int .i64))) := World.ownsRow.mono hown' (by simp; omega)
                clear hown' hgrow
                go_wp2
                go_roundw
                case rel => exact ⟨x + 1, a4, cap4, [] ++ [(x : Int)], by omega, by go_num, rfl, by simp, HL4, .inr HO4, hB4⟩
                case measure => simp [intOf]; omega
              · go_wp2_with (at_builtin; refine wpList_append_own _ rfl _ _ 30 rfl w3.heap.size 3 i0 (.int .i64 0) 1 8 Try.underlying30 hi hz0 hz1 hz2 rfl (by decide) _ _ _ rfl (hO5.out.alloc _) ⟨w6.heap.size, 0, none⟩ 1 1 [.int .i64 (x : Int)] rfl rfl (cell_one_new _ _ _) (by simp [Value.oneCell']) (by unfold maxLen; omega) (by omega) (by simp; omega) ?_; intro v' w4 hown' hgrow _; obtain ⟨a4, cap4, rfl⟩ := owns_slice hown')
                have hrow : ∀ j, (Value.slice ao l.length co).ownBlock = some j → w3.heap.size ≤ j := fun j ej => (hO5.out.lt j ej).1
                have hB4 : Below w3.heap.size w3 w4 := (hB5.alloc hBs (.cells #[.int .i64 (x : Int)] 3)).grown hgrow (by simp; omega) (fun j e => hrow j e)
                have HO4 : Hid (w4.ownsRow w3.heap.size 3 1 (.slice a4 (l ++ [(x : Int)]).length cap4) (l ++ [(x : Int)]).length ((l ++ [(x : Int)]).map (Value.int .i64))) := by
                  unfold Hid; rw [List.map_append, List.length_append]; exact hown'
                have hlen : l.length + 1 = (l ++ [(x : Int)]).length := by simp
                clear hown' hgrow hrow
                go_wp2
                go_roundw
                case rel => exact ⟨x + 1, a4, cap4, l ++ [(x : Int)], by omega, by go_num, by rw [← hlen], by omega, HL4, .inr HO4, hB4⟩
                case measure => simp [intOf]; omega
      · obtain rfl : x = N := by omega
        have e1 : candTo (ptopB (pairF ps) x) x = l := hL.out
        have e2 : Hid (r = l) := by unfold Hid; rw [e.out, e1]
        have hB9 : Below w.heap.size w wx := hG.symm ▸ B3.out.trans (hB.mono (by have := B3.out.size; rw [hG] at this; exact this))
        have hO9 : Hid (wx.ownsRow w.heap.size 3 1 (.slice ao l.length co) l.length (l.map (Value.int .i64))) := by
          rcases hO with ⟨rfl, rfl, rfl⟩ | hO
          · have := owns_under O3.out hB
            rw [hG] at this ⊢
            exact this
          · exact World.ownsRow.mono hO.out (by have := B3.out.size; omega)
        clear hO hT hL e1
        go_wp2
        go_ret
        exact ⟨ao, co, by rw [e2.out]; rfl, by rw [e2.out]; exact hO9.out, hB9⟩

end Go.Proofs.Ytaaamidkfhabnaa

namespace Go.Proofs.Ytaaamidkfhabnaa
open Go.RowKit

attribute [local go_sem] Oper.semAt_some

set_option maxRecDepth 100000 in
set_option maxHeartbeats 8000000 in
/-- **spec.PairBest**. -/
theorem specPairBest_as (a : Option Addr) (len cap : Nat) (ps : List Pl) (n : Int) (r : List Int) (w : World) (h : IsPiles w a len cap ps) (hs : Small ps) (hr : pbestF ps n = r) :
    Calls Try.prog 33 #[.slice a len cap, .int .i64 n] w fun e w' => ∃ a' cap', e = .returned (.slice a' r.length cap') ∧ w'.ownsRow w.heap.size 3 1 (.slice a' r.length cap') r.length (r.map (Value.int .i64)) ∧ Below w.heap.size w w' := by
  obtain ⟨i0, hi, hz0, hz1, hz2⟩ := info_parts int_info
  have HI := Lib.hid h
  have HS := Lib.hid hs
  have HR := Lib.hid hr
  clear h hs hr
  obtain ⟨G0, hG⟩ : ∃ G, w.heap.size = G := ⟨_, rfl⟩
  have HE0 : Hid ((w.alloc (.cells #[] 3)).ownsRow G0 3 1 (.slice (some ⟨w.heap.size, 0, none⟩) 0 0) 0 []) := World.ownsRow_lit (base := G0) (e := 3) (size := 1) w #[] 0 (by omega) (by unfold maxLen; omega) rfl
  have HB0 : Below G0 w (w.alloc (.cells #[] 3)) := (Below.refl G0 w).alloc (by omega) _
  obtain ⟨W0, hW0⟩ : ∃ W0, w.alloc (.cells #[] 3) = W0 := ⟨_, rfl⟩
  rw [hW0] at HE0 HB0
  have IW := Lib.hid (HI.out.below (hG.symm ▸ HB0))
  have hgw : G0 ≤ W0.heap.size := by have := HB0.size; rw [hG] at this; exact this
  cases hv : fitsB ps n
  · have e : Hid (r = []) := by rw [Hid, ← HR.out, pbestF, hv]; rfl
    have HV := Lib.hid hv; clear hv
    go_enter Try.func33, Try.ntmps33
    go_wp2_with fail
    refine (specFits_as _ len cap ps n false _ IW.out HS.out HV.out).mono ?_
    rintro e1 w1 ⟨rfl, hb1⟩
    go_wp2
    go_ret
    exact ⟨_, _, by rw [e.out]; rfl, by rw [e.out, hG]; have := owns_under HE0.out hb1; rw [hG] at this; exact this, hG.symm ▸ HB0.trans (hb1.mono hgw)⟩
  · obtain ⟨hp, hn1, hn5, -⟩ := fits_parts hv
    obtain ⟨N, rfl⟩ : ∃ N : Nat, n = (N : Int) := ⟨n.toNat, by omega⟩
    have e : Hid (r = candTo (pbestB (pairF ps) N) N) := by rw [Hid, ← HR.out, pbestF, hv]; rfl
    have HV := Lib.hid hv
    have HP := Lib.hid hp
    clear hv hp
    have hN1 : 1 ≤ N := by omega
    have hN5 : N ≤ 5 := by omega
    go_enter Try.func33, Try.ntmps33
    go_wp2_with fail
    refine (specFits_as _ len cap ps (N : Int) true _ IW.out HS.out HV.out).mono ?_
    rintro e1 w1 ⟨rfl, hb1⟩
    have I1 := Lib.hid (IW.out.below hb1)
    have O1 := Lib.hid (owns_under HE0.out hb1)
    have B1 := Lib.hid (HB0.trans (hb1.mono hgw))
    clear hb1 hgw HE0 HB0 IW
    go_wp2_with fail
    refine (l13Counts_any _ len cap ps N _ I1.out HS.out HP.out hN1 hN5).mono ?_
    rintro e1 w2 ⟨am, cm, G, C, rfl, hT, hb2⟩
    obtain ⟨gm, rfl, hgm, hgl, -⟩ := hT.head (by omega)
    have T2 := Lib.hid hT
    have O2 := Lib.hid (owns_under O1.out hb2)
    have B2 := Lib.hid (B1.out.trans (hb2.mono (by have := B1.out.size; rw [hG] at this; exact this)))
    clear hT hb2 hgm
    go_wp2_with fail
    refine (l13Paths_any N _ gm cm G C (pairF ps) _ T2.out hN1 hN5).mono ?_
    rintro e1 w3 ⟨ar, cr, G2, C2, rfl, hT, hb3⟩
    obtain ⟨gr, rfl, hgm, hgl2, -⟩ := hT.head (by omega)
    have T3 := Lib.hid hT
    have O3 : Hid (w3.ownsRow G0 3 1 (.slice (some ⟨w.heap.size, 0, none⟩) 0 0) 0 ((candTo (pbestB (pairF ps) N) 0).map (Value.int .i64))) := owns_under O2.out hb3
    have B3 := Lib.hid (B2.out.trans (hb3.mono (by have := B2.out.size; rw [hG] at this; exact this)))
    have L3 : (w.heap.size : Nat) < w2.heap.size := by
      have := (O2.out.lt w.heap.size rfl).2; exact this
    clear hT hb3 hgm O1 O2
    go_wp2
    obtain ⟨gg, hgg⟩ : ∃ gg, w.heap.size = gg := ⟨_, rfl⟩
    go_loopw [5, 7, 8, 9] (fun rv xv _ _ wr => ∃ (x : Nat) (ao : Option Addr) (co : Nat) (l : List Int), x ≤ N ∧ xv = .int .i64 (x : Int) ∧ rv = .slice ao l.length co ∧ l.length ≤ x ∧ Hid (candTo (pbestB (pairF ps) N) x = l) ∧ ((l = [] ∧ ao = some ⟨G0, 0, none⟩ ∧ co = 0) ∨ Hid (wr.ownsRow w3.heap.size 3 1 (.slice ao l.length co) l.length (l.map (Value.int .i64)))) ∧ Below w3.heap.size w3 wr) (fun _ xv _ _ _ => N - (intOf xv).toNat)
    case atStart => exact ⟨0, _, _, [], Nat.zero_le _, rfl, rfl, Nat.le_refl _, rfl, .inl ⟨rfl, rfl, rfl⟩, Below.refl _ _⟩
    case round =>
      rename World => wx
      obtain ⟨x, ao, co, l, hx, rfl, rfl, hll, hL, hO, hB⟩ := hrel
      have hT := Lib.hid (T3.out.under hB)
      by_cases hlt : x < N
      · go_wp2
        go_loopw [8, 9] (fun av yv wr => ∃ (y : Nat) (u : Bool), y ≤ N ∧ yv = .int .i64 (y : Int) ∧ av = .bool u ∧ Hid (allTo (fun y => decide (pathL (pairF ps) N y x ≤ pathL (pairF ps) N x y)) y = u) ∧ Dr wx wr) (fun _ yv _ => N - (intOf yv).toNat)
        case atStart => exact ⟨0, true, Nat.zero_le _, rfl, rfl, rfl, Dr.refl _⟩
        case round =>
          obtain ⟨y, u, hy, rfl, rfl, hA2, hd2⟩ := hrel
          have T5 := hT.out.under (hd2.below _)
          by_cases hlt2 : y < N
          ·
            have rx := T5.row_cell hlt (Nat.le_refl _)
            have ry := T5.row_cell hlt2 (Nat.le_refl _)
            have cxy := T5.cell hlt hlt2
            have cyx := T5.cell hlt2 hlt
            obtain ⟨gx, hgx⟩ : ∃ gx, G2 x = gx := ⟨_, rfl⟩
            obtain ⟨cx, hcx⟩ : ∃ cx, C2 x = cx := ⟨_, rfl⟩
            obtain ⟨gy, hgy⟩ : ∃ gy, G2 y = gy := ⟨_, rfl⟩
            obtain ⟨cy, hcy⟩ : ∃ cy, C2 y = cy := ⟨_, rfl⟩
            rw [hgx] at rx cxy
            rw [hcx] at rx
            rw [hgy] at ry cyx
            rw [hcy] at ry
            obtain ⟨p, hp⟩ : ∃ p, pathL (pairF ps) N x y = p := ⟨_, rfl⟩
            obtain ⟨q, hq⟩ : ∃ q, pathL (pairF ps) N y x = q := ⟨_, rfl⟩
            simp only [hp] at cxy
            simp only [hq] at cyx
            obtain ⟨v, hv⟩ : ∃ v, decide (q ≤ p) = v := ⟨_, rfl⟩
            have HV2 : Hid (decide (pathL (pairF ps) N y x ≤ pathL (pairF ps) N x y) = v) := by unfold Hid; rw [hp, hq, hv]
            have hxi : (x : Int) < (N : Int) := by omega
            have hyi : (y : Int) < (N : Int) := by omega
            clear hgx hcx hgy hcy hp hq T5
            cases u
            · go_wp2_with fail
              go_quiet (fail)
              go_wp2
              go_roundw
              case rel => exact ⟨y + 1, false, by omega, by go_num, rfl, by unfold Hid; rw [allTo_succ, hA2.out]; rfl, hd2.drewN _⟩
              case measure => simp [intOf]; omega
            · go_wp2_with fail
              go_quiet (fail)
              go_wp2
              go_roundw
              case rel => exact ⟨y + 1, v, by omega, by go_num, rfl, by unfold Hid; rw [allTo_succ, hA2.out, HV2.out]; rfl, hd2.drewN _⟩
              case measure => simp [intOf]; omega
          · obtain rfl : y = N := by omega
            have HBX : Hid (pbestB (pairF ps) y x = u) := hA2.out
            have hB5 := hB.trans (hd2.below w3.heap.size)
            have hO5 : (l = [] ∧ ao = some ⟨G0, 0, none⟩ ∧ co = 0) ∨ Hid (wr.ownsRow w3.heap.size 3 1 (.slice ao l.length co) l.length (l.map (Value.int .i64))) := hO.imp id fun h => owns_under h.out (hd2.below _)
            clear hA2 hO hT hB T5 hd2
            rename World => w6
            cases u
            · go_wp2
              go_roundw
              case rel => exact ⟨x + 1, ao, co, l, by omega, by go_num, rfl, by omega, by unfold Hid; rw [candTo_no HBX.out]; exact hL.out, hO5, hB5⟩
              case measure => simp [intOf]; omega
            · have hBs := hB5.size
              have HL4 : Hid (candTo (pbestB (pairF ps) y) (x + 1) = l ++ [(x : Int)]) := by unfold Hid; rw [candTo_yes HBX.out, hL.out]
              rcases hO5 with ⟨rfl, rfl, rfl⟩ | hO5
              · have hz : ([] : List Int).length = 0 := rfl
                rw [hz]
                go_wp2_with (at_builtin; refine wpList_append_grows _ rfl _ _ 30 rfl 3 i0 (.int .i64 0) 1 8 Try.underlying30 hi hz0 hz1 hz2 rfl Nat.one_pos (some ⟨G0, 0, none⟩) 0 0 [] rfl (by intro h; cases h) rfl (by intro b _ j u h; simp at h) ⟨w6.heap.size, 0, none⟩ 1 1 [.int .i64 (x : Int)] rfl rfl (cell_one_new _ _ _) (by simp [Value.oneCell']) (by omega) (by unfold maxLen; omega) (by omega) ?_; intro v' w4 hown' hgrow; obtain ⟨a4, cap4, rfl⟩ := owns_slice hown')
                have hB4 : Below w3.heap.size w3 w4 := (hB5.alloc hBs (.cells #[.int .i64 (x : Int)] 3)).grown hgrow (by simp; omega) (fun j e => by cases e)
                have HO4 : Hid (w4.ownsRow w3.heap.size 3 1 (.slice a4 (([] : List Int) ++ [(x : Int)]).length cap4) (([] : List Int) ++ [(x : Int)]).length ((([] : List Int) ++ [(x : Int)]).map (Value.int .i64))) := World.ownsRow.mono hown' (by simp; omega)
                clear hown' hgrow
                go_wp2
                go_roundw
                case rel => exact ⟨x + 1, a4, cap4, [] ++ [(x : Int)], by omega, by go_num, rfl, by simp, HL4, .inr HO4, hB4⟩
                case measure => simp [intOf]; omega
              · go_wp2_with (at_builtin; refine wpList_append_own _ rfl _ _ 30 rfl w3.heap.size 3 i0 (.int .i64 0) 1 8 Try.underlying30 hi hz0 hz1 hz2 rfl (by decide) _ _ _ rfl (hO5.out.alloc _) ⟨w6.heap.size, 0, none⟩ 1 1 [.int .i64 (x : Int)] rfl rfl (cell_one_new _ _ _) (by simp [Value.oneCell']) (by unfold maxLen; omega) (by omega) (by simp; omega) ?_; intro v' w4 hown' hgrow _; obtain ⟨a4, cap4, rfl⟩ := owns_slice hown')
                have hrow : ∀ j, (Value.slice ao l.length co).ownBlock = some j → w3.heap.size ≤ j := fun j ej => (hO5.out.lt j ej).1
                have hB4 : Below w3.heap.size w3 w4 := (hB5.alloc hBs (.cells #[.int .i64 (x : Int)] 3)).grown hgrow (by simp; omega) (fun j e => hrow j e)
                have HO4 : Hid (w4.ownsRow w3.heap.size 3 1 (.slice a4 (l ++ [(x : Int)]).length cap4) (l ++ [(x : Int)]).length ((l ++ [(x : Int)]).map (Value.int .i64))) := by
                  unfold Hid; rw [List.map_append, List.length_append]; exact hown'
                have hlen : l.length + 1 = (l ++ [(x : Int)]).length := by simp
                clear hown' hgrow hrow
                go_wp2
                go_roundw
                case rel => exact ⟨x + 1, a4, cap4, l ++ [(x : Int)], by omega, by go_num, by rw [← hlen], by omega, HL4, .inr HO4, hB4⟩
                case measure => simp [intOf]; omega
      · obtain rfl : x = N := by omega
        have e1 : candTo (pbestB (pairF ps) x) x = l := hL.out
        have e2 : Hid (r = l) := by unfold Hid; rw [e.out, e1]
        have hB9 : Below w.heap.size w wx := hG.symm ▸ B3.out.trans (hB.mono (by have := B3.out.size; rw [hG] at this; exact this))
        have hO9 : Hid (wx.ownsRow w.heap.size 3 1 (.slice ao l.length co) l.length (l.map (Value.int .i64))) := by
          rcases hO with ⟨rfl, rfl, rfl⟩ | hO
          · have := owns_under O3.out hB
            rw [hG] at this ⊢
            exact this
          · exact World.ownsRow.mono hO.out (by have := B3.out.size; omega)
        clear hO hT hL e1
        go_wp2
        go_ret
        exact ⟨ao, co, by rw [e2.out]; rfl, by rw [e2.out]; exact hO9.out, hB9⟩

end Go.Proofs.Ytaaamidkfhabnaa
