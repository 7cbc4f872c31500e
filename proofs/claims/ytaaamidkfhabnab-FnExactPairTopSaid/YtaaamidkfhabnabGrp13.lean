/-
  spec.PairBest: for every list of piles and every number of candidates, in memory of the call's own.
  spec.PairPaths: for every list of piles and every number of candidates.
  Marks of a table: markIntSS writes into its rows alone, heldIntSS finds them again; equal lists of ints. No condition but what each theorem says.
  The exact statements' own functions over piles: marks.
  What the walks of the exact laws of pairs share. No condition but what each theorem says.
-/
import Derived.Test.YtaaamidkfhabnabWinsS
import Derived.Test.YtaaamidkfhabnabGrp10
import Derived.Test.YtaaamidkfhabnabPathsS
import Derived.Test.YtaaamidkfhabnabGrp12
import Derived.Test.YtaaamidkfhabnabGrp11
import Derived.Test.YtaaamidkfhabnabGrp8
import Derived.Laws.BytesArg
import Derived.Laws.Concat
namespace Go.Proofs.Ytaaamidkfhabnab
open Go.RowKit

attribute [local go_sem] Oper.semAt_some

set_option maxRecDepth 100000 in
set_option maxHeartbeats 8000000 in
/-- **spec.PairBest**. -/
theorem specPairBest_as (a : Option Addr) (len cap : Nat) (ps : List Pl) (n : Int) (r : List Int) (w : World) (h : IsPiles w a len cap ps) (hs : Small ps) (hr : pbestF ps n = r) :
    Calls Try.prog 23 #[.slice a len cap, .int .i64 n] w fun e w' => ∃ a' cap', e = .returned (.slice a' r.length cap') ∧ w'.ownsRow w.heap.size 3 1 (.slice a' r.length cap') r.length (r.map (Value.int .i64)) ∧ Below w.heap.size w w' := by
  obtain ⟨i0, hi, hz0, hz1, hz2⟩ := info_parts int_info
  have HI := Lib.hid h
  have HS := Lib.hid hs
  have HR := Lib.hid hr
  clear h hs hr
  obtain ⟨G0, hG⟩ : ∃ G, w.heap.size = G := ⟨_, rfl⟩
  have HE0 : Hid ((w.alloc (.cells #[] 3)).ownsRow G0 3 1 (.slice (some ⟨w.heap.size, 0, none⟩) 0 0) 0 []) := World.ownsRow_lit (base := G0) (e := 3) (size := 1) w #[] 0 (by omega) (by unfold maxLen; omega) rfl
  have HB0 : Below G0 w (w.alloc (.cells #[] 3)) := (Below.refl G0 w).alloc (by omega) _
  obtain ⟨W0, hW0⟩ : ∃ W0, w.alloc (.cells #[] 3) = W0 := ⟨_, rfl⟩
  rw [hW0] at HE0 HB0
  have IW := Lib.hid (HI.out.below (hG.symm ▸ HB0))
  have hgw : G0 ≤ W0.heap.size := by have := HB0.size; rw [hG] at this; exact this
  cases hv : fitsB ps n
  · have e : Hid (r = []) := by rw [Hid, ← HR.out, pbestF, hv]; rfl
    have HV := Lib.hid hv; clear hv
    go_enter Try.func23, Try.ntmps23
    go_wp2_with fail
    refine (specFits_as _ len cap ps n false _ IW.out HS.out HV.out).mono ?_
    rintro e1 w1 ⟨rfl, hb1⟩
    go_wp2
    go_ret
    exact ⟨_, _, by rw [e.out]; rfl, by rw [e.out, hG]; have := owns_under HE0.out hb1; rw [hG] at this; exact this, hG.symm ▸ HB0.trans (hb1.mono hgw)⟩
  · obtain ⟨hp, hn1, hn5, -⟩ := fits_parts hv
    obtain ⟨N, rfl⟩ : ∃ N : Nat, n = (N : Int) := ⟨n.toNat, by omega⟩
    have e : Hid (r = candTo (pbestB (pairF ps) N) N) := by rw [Hid, ← HR.out, pbestF, hv]; rfl
    have HV := Lib.hid hv
    have HP := Lib.hid hp
    clear hv hp
    have hN1 : 1 ≤ N := by omega
    have hN5 : N ≤ 5 := by omega
    go_enter Try.func23, Try.ntmps23
    go_wp2_with fail
    refine (specFits_as _ len cap ps (N : Int) true _ IW.out HS.out HV.out).mono ?_
    rintro e1 w1 ⟨rfl, hb1⟩
    have I1 := Lib.hid (IW.out.below hb1)
    have O1 := Lib.hid (owns_under HE0.out hb1)
    have B1 := Lib.hid (HB0.trans (hb1.mono hgw))
    clear hb1 hgw HE0 HB0 IW
    go_wp2_with fail
    refine (l13Counts_any _ len cap ps N _ I1.out HS.out HP.out hN1 hN5).mono ?_
    rintro e1 w2 ⟨am, cm, G, C, rfl, hT, hb2⟩
    obtain ⟨gm, rfl, hgm, hgl, -⟩ := hT.head (by omega)
    have T2 := Lib.hid hT
    have O2 := Lib.hid (owns_under O1.out hb2)
    have B2 := Lib.hid (B1.out.trans (hb2.mono (by have := B1.out.size; rw [hG] at this; exact this)))
    clear hT hb2 hgm
    go_wp2_with fail
    refine (l13Paths_any N _ gm cm G C (pairF ps) _ T2.out hN1 hN5).mono ?_
    rintro e1 w3 ⟨ar, cr, G2, C2, rfl, hT, hb3⟩
    obtain ⟨gr, rfl, hgm, hgl2, -⟩ := hT.head (by omega)
    have T3 := Lib.hid hT
    have O3 : Hid (w3.ownsRow G0 3 1 (.slice (some ⟨w.heap.size, 0, none⟩) 0 0) 0 ((candTo (pbestB (pairF ps) N) 0).map (Value.int .i64))) := owns_under O2.out hb3
    have B3 := Lib.hid (B2.out.trans (hb3.mono (by have := B2.out.size; rw [hG] at this; exact this)))
    have L3 : (w.heap.size : Nat) < w2.heap.size := by
      have := (O2.out.lt w.heap.size rfl).2; exact this
    clear hT hb3 hgm O1 O2
    go_wp2
    obtain ⟨gg, hgg⟩ : ∃ gg, w.heap.size = gg := ⟨_, rfl⟩
    go_loopw [5, 7, 8, 9] (fun rv xv _ _ wr => ∃ (x : Nat) (ao : Option Addr) (co : Nat) (l : List Int), x ≤ N ∧ xv = .int .i64 (x : Int) ∧ rv = .slice ao l.length co ∧ l.length ≤ x ∧ Hid (candTo (pbestB (pairF ps) N) x = l) ∧ ((l = [] ∧ ao = some ⟨G0, 0, none⟩ ∧ co = 0) ∨ Hid (wr.ownsRow w3.heap.size 3 1 (.slice ao l.length co) l.length (l.map (Value.int .i64)))) ∧ Below w3.heap.size w3 wr) (fun _ xv _ _ _ => N - (intOf xv).toNat)
    case atStart => exact ⟨0, _, _, [], Nat.zero_le _, rfl, rfl, Nat.le_refl _, rfl, .inl ⟨rfl, rfl, rfl⟩, Below.refl _ _⟩
    case round =>
      rename World => wx
      obtain ⟨x, ao, co, l, hx, rfl, rfl, hll, hL, hO, hB⟩ := hrel
      have hT := Lib.hid (T3.out.under hB)
      by_cases hlt : x < N
      · go_wp2
        go_loopw [8, 9] (fun av yv wr => ∃ (y : Nat) (u : Bool), y ≤ N ∧ yv = .int .i64 (y : Int) ∧ av = .bool u ∧ Hid (allTo (fun y => decide (pathL (pairF ps) N y x ≤ pathL (pairF ps) N x y)) y = u) ∧ Dr wx wr) (fun _ yv _ => N - (intOf yv).toNat)
        case atStart => exact ⟨0, true, Nat.zero_le _, rfl, rfl, rfl, Dr.refl _⟩
        case round =>
          obtain ⟨y, u, hy, rfl, rfl, hA2, hd2⟩ := hrel
          have T5 := hT.out.under (hd2.below _)
          by_cases hlt2 : y < N
          ·
            have rx := T5.row_cell hlt (Nat.le_refl _)
            have ry := T5.row_cell hlt2 (Nat.le_refl _)
            have cxy := T5.cell hlt hlt2
            have cyx := T5.cell hlt2 hlt
            obtain ⟨gx, hgx⟩ : ∃ gx, G2 x = gx := ⟨_, rfl⟩
            obtain ⟨cx, hcx⟩ : ∃ cx, C2 x = cx := ⟨_, rfl⟩
            obtain ⟨gy, hgy⟩ : ∃ gy, G2 y = gy := ⟨_, rfl⟩
            obtain ⟨cy, hcy⟩ : ∃ cy, C2 y = cy := ⟨_, rfl⟩
            rw [hgx] at rx cxy
            rw [hcx] at rx
            rw [hgy] at ry cyx
            rw [hcy] at ry
            obtain ⟨p, hp⟩ : ∃ p, pathL (pairF ps) N x y = p := ⟨_, rfl⟩
            obtain ⟨q, hq⟩ : ∃ q, pathL (pairF ps) N y x = q := ⟨_, rfl⟩
            simp only [hp] at cxy
            simp only [hq] at cyx
            obtain ⟨v, hv⟩ : ∃ v, decide (q ≤ p) = v := ⟨_, rfl⟩
            have HV2 : Hid (decide (pathL (pairF ps) N y x ≤ pathL (pairF ps) N x y) = v) := by unfold Hid; rw [hp, hq, hv]
            have hxi : (x : Int) < (N : Int) := by omega
            have hyi : (y : Int) < (N : Int) := by omega
            clear hgx hcx hgy hcy hp hq T5
            cases u
            · go_wp2_with fail
              go_quiet (fail)
              go_wp2
              go_roundw
              case rel => exact ⟨y + 1, false, by omega, by go_num, rfl, by unfold Hid; rw [allTo_succ, hA2.out]; rfl, hd2.drewN _⟩
              case measure => simp [intOf]; omega
            · go_wp2_with fail
              go_quiet (fail)
              go_wp2
              go_roundw
              case rel => exact ⟨y + 1, v, by omega, by go_num, rfl, by unfold Hid; rw [allTo_succ, hA2.out, HV2.out]; rfl, hd2.drewN _⟩
              case measure => simp [intOf]; omega
          · obtain rfl : y = N := by omega
            have HBX : Hid (pbestB (pairF ps) y x = u) := hA2.out
            have hB5 := hB.trans (hd2.below w3.heap.size)
            have hO5 : (l = [] ∧ ao = some ⟨G0, 0, none⟩ ∧ co = 0) ∨ Hid (wr.ownsRow w3.heap.size 3 1 (.slice ao l.length co) l.length (l.map (Value.int .i64))) := hO.imp id fun h => owns_under h.out (hd2.below _)
            clear hA2 hO hT hB T5 hd2
            rename World => w6
            cases u
            · go_wp2
              go_roundw
              case rel => exact ⟨x + 1, ao, co, l, by omega, by go_num, rfl, by omega, by unfold Hid; rw [candTo_no HBX.out]; exact hL.out, hO5, hB5⟩
              case measure => simp [intOf]; omega
            · have hBs := hB5.size
              have HL4 : Hid (candTo (pbestB (pairF ps) y) (x + 1) = l ++ [(x : Int)]) := by unfold Hid; rw [candTo_yes HBX.out, hL.out]
              rcases hO5 with ⟨rfl, rfl, rfl⟩ | hO5
              · have hz : ([] : List Int).length = 0 := rfl
                rw [hz]
                go_wp2_with (at_builtin; refine wpList_append_grows _ rfl _ _ 29 rfl 3 i0 (.int .i64 0) 1 8 Try.underlying29 hi hz0 hz1 hz2 rfl Nat.one_pos (some ⟨G0, 0, none⟩) 0 0 [] rfl (by intro h; cases h) rfl (by intro b _ j u h; simp at h) ⟨w6.heap.size, 0, none⟩ 1 1 [.int .i64 (x : Int)] rfl rfl (cell_one_new _ _ _) (by simp [Value.oneCell']) (by omega) (by unfold maxLen; omega) (by omega) ?_; intro v' w4 hown' hgrow; obtain ⟨a4, cap4, rfl⟩ := owns_slice hown')
                have hB4 : Below w3.heap.size w3 w4 := (hB5.alloc hBs (.cells #[.int .i64 (x : Int)] 3)).grown hgrow (by simp; omega) (fun j e => by cases e)
                have HO4 : Hid (w4.ownsRow w3.heap.size 3 1 (.slice a4 (([] : List Int) ++ [(x : Int)]).length cap4) (([] : List Int) ++ [(x : Int)]).length ((([] : List Int) ++ [(x : Int)]).map (Value.int .i64))) := World.ownsRow.mono hown' (by simp; omega)
                clear hown' hgrow
                go_wp2
                go_roundw
                case rel => exact ⟨x + 1, a4, cap4, [] ++ [(x : Int)], by omega, by go_num, rfl, by simp, HL4, .inr HO4, hB4⟩
                case measure => simp [intOf]; omega
              · go_wp2_with (at_builtin; refine wpList_append_own _ rfl _ _ 29 rfl w3.heap.size 3 i0 (.int .i64 0) 1 8 Try.underlying29 hi hz0 hz1 hz2 rfl (by decide) _ _ _ rfl (hO5.out.alloc _) ⟨w6.heap.size, 0, none⟩ 1 1 [.int .i64 (x : Int)] rfl rfl (cell_one_new _ _ _) (by simp [Value.oneCell']) (by unfold maxLen; omega) (by omega) (by simp; omega) ?_; intro v' w4 hown' hgrow _; obtain ⟨a4, cap4, rfl⟩ := owns_slice hown')
                have hrow : ∀ j, (Value.slice ao l.length co).ownBlock = some j → w3.heap.size ≤ j := fun j ej => (hO5.out.lt j ej).1
                have hB4 : Below w3.heap.size w3 w4 := (hB5.alloc hBs (.cells #[.int .i64 (x : Int)] 3)).grown hgrow (by simp; omega) (fun j e => hrow j e)
                have HO4 : Hid (w4.ownsRow w3.heap.size 3 1 (.slice a4 (l ++ [(x : Int)]).length cap4) (l ++ [(x : Int)]).length ((l ++ [(x : Int)]).map (Value.int .i64))) := by
                  unfold Hid; rw [List.map_append, List.length_append]; exact hown'
                have hlen : l.length + 1 = (l ++ [(x : Int)]).length := by simp
                clear hown' hgrow hrow
                go_wp2
                go_roundw
                case rel => exact ⟨x + 1, a4, cap4, l ++ [(x : Int)], by omega, by go_num, by rw [← hlen], by omega, HL4, .inr HO4, hB4⟩
                case measure => simp [intOf]; omega
      · obtain rfl : x = N := by omega
        have e1 : candTo (pbestB (pairF ps) x) x = l := hL.out
        have e2 : Hid (r = l) := by unfold Hid; rw [e.out, e1]
        have hB9 : Below w.heap.size w wx := hG.symm ▸ B3.out.trans (hB.mono (by have := B3.out.size; rw [hG] at this; exact this))
        have hO9 : Hid (wx.ownsRow w.heap.size 3 1 (.slice ao l.length co) l.length (l.map (Value.int .i64))) := by
          rcases hO with ⟨rfl, rfl, rfl⟩ | hO
          · have := owns_under O3.out hB
            rw [hG] at this ⊢
            exact this
          · exact World.ownsRow.mono hO.out (by have := B3.out.size; omega)
        clear hO hT hL e1
        go_wp2
        go_ret
        exact ⟨ao, co, by rw [e2.out]; rfl, by rw [e2.out]; exact hO9.out, hB9⟩

end Go.Proofs.Ytaaamidkfhabnab

namespace Go.Proofs.Ytaaamidkfhabnab
open Go.RowKit

attribute [local go_sem] Oper.semAt_some

set_option maxRecDepth 100000 in
set_option maxHeartbeats 2000000 in
/-- **spec.PairPaths**. -/
theorem specPairPaths_as (a : Option Addr) (len cap : Nat) (ps : List Pl) (n : Int) (v : Bool) (w : World) (h : IsPiles w a len cap ps) (hs : Small ps) (hv : fitsB ps n = v) :
    Calls Try.prog 18 #[.slice a len cap, .int .i64 n] w (GaveT w w.heap.size v n.toNat (pathL (pairF ps) n.toNat)) := by
  have HI := Lib.hid h
  have HS := Lib.hid hs
  clear h hs
  cases v
  · have HV := Lib.hid hv; clear hv
    go_enter Try.func18, Try.ntmps18
    go_wp2_with fail
    refine (specFits_as _ len cap ps n false _ HI.out HS.out HV.out).mono ?_
    rintro e1 w1 ⟨rfl, hb1⟩
    go_wp2
    go_ret2
    exact ⟨_, _, fun _ => 0, fun _ => 0, rfl, (by intro h; cases h), hb1.alloc hb1.size _⟩
  · obtain ⟨hp, hn1, hn5, -⟩ := fits_parts hv
    obtain ⟨N, rfl⟩ : ∃ N : Nat, n = (N : Int) := ⟨n.toNat, by omega⟩
    have HV := Lib.hid hv
    have HP := Lib.hid hp
    clear hv hp
    have hN1 : 1 ≤ N := by omega
    have hN5 : N ≤ 5 := by omega
    go_enter Try.func18, Try.ntmps18
    go_wp2_with fail
    refine (specFits_as _ len cap ps (N : Int) true _ HI.out HS.out HV.out).mono ?_
    rintro e1 w1 ⟨rfl, hb1⟩
    have I1 := Lib.hid (HI.out.below hb1)
    have B1 := Lib.hid hb1
    clear hb1
    go_wp2_with fail
    refine (l13Counts_any _ len cap ps N _ I1.out HS.out HP.out hN1 hN5).mono ?_
    rintro e1 w2 ⟨am, cm, G, C, rfl, hT, hb2⟩
    obtain ⟨gm, rfl, -, -, -⟩ := hT.head (by omega)
    have T2 := Lib.hid hT
    have B2 := Lib.hid (B1.out.trans (hb2.mono B1.out.size))
    clear hT hb2
    go_wp2_with fail
    refine (l13Paths_any N _ gm cm G C (pairF ps) _ T2.out hN1 hN5).mono ?_
    rintro e1 w3 ⟨ar, cr, G2, C2, rfl, hT, hb3⟩
    have T3 := Lib.hid hT
    have B3 := Lib.hid (B2.out.trans (hb3.mono B2.out.size))
    clear hT hb3
    go_wp2
    go_ret2
    exact ⟨ar, cr, G2, C2, by simp, fun _ => by rw [Int.toNat_natCast]; exact T3.out.mono B2.out.size, B3.out⟩

end Go.Proofs.Ytaaamidkfhabnab

namespace Go.Proofs.Ytaaamidkfhabnab
open Go.RowKit

theorem eqIntS_self (a : Option Addr) (len cap : Nat) (zs : List Int) (b : Option Addr) (cap' : Nat) (w : World) (h : IsInts w a len cap zs) (h' : IsInts w b len cap' zs) :
    Calls Try.prog 14 #[.slice a len cap, .slice b len cap'] w fun e w' => e = .returned (.bool true) ∧ Dr w w' :=
  (eqIntS_any a len cap zs b len cap' zs w h h').mono fun e w' ⟨he, hd⟩ => ⟨by rw [he, eqB_self], hd⟩
/-- A row is written anew. -/
theorem Tb.anew {E R : TypeId} {w w' : World} {base len cap k n : Nat} {a : Option Addr} {G C : Nat → Nat} {F : Nat → Nat → Value} (hER : E ≠ R) (h : Tb E R w base a len cap k n G C F) {x : Nat} (hx : x < k) {f : Nat → Value} (hs : w.grownBy w' (some (G x)))
    (hr : w'.ownsRow base E 1 (.slice (some ⟨G x, 0, none⟩) n (C x)) n ((List.range n).map f)) : Tb E R w' base a len cap k n G C (fun i j => if i = x then f j else F i j) := by
  refine ⟨?_, fun j hj => ?_, h.order⟩
  · obtain ⟨V, h1, h2⟩ := h.outer
    refine ⟨V, h1.kept hs ?_, h2⟩
    cases hb : (Value.slice a len cap).ownBlock with
    | none => exact .inl rfl
    | some b =>
      right
      intro e
      injection e with e
      cases a with
      | none => simp [Value.ownBlock] at hb
      | some ad =>
        have h0 := h1
        rcases h0.2 with ⟨e0, _⟩ | ⟨g, c, cur, e1, _, hg, _⟩
        · simp at e0
        · injection e1 with e1 _ _
          injection e1 with e1
          subst e1
          simp [Value.ownBlock] at hb
          exact Tb.out_ne hER h hx (by omega)
  · by_cases e : j = x
    · subst e
      have e2 : (List.range n).map (fun y => if j = j then f y else F j y) = (List.range n).map f := List.map_congr_left (fun i _ => by rw [if_pos rfl])
      rw [e2]; exact hr
    · have e2 : (List.range n).map (fun y => if j = x then f y else F j y) = (List.range n).map (F j) := List.map_congr_left (fun i _ => by rw [if_neg e])
      rw [e2]
      exact (h.inner j hj).kept hs (.inr (by simp [Value.ownBlock]; exact h.ne hj hx e))

/-- The marks of the rows before x. -/
def markF (F : Nat → Nat → Value) (n x : Nat) : Nat → Nat → Value := fun i j => if i < x then .int .i64 (1 + (n : Int) * (i : Int) + (j : Int)) else F i j
theorem marks_row (n : Nat) (k : Int) : (marks k n).map (Value.int .i64) = (List.range n).map (fun (j : Nat) => Value.int .i64 (k + (j : Int))) := by
  unfold marks; rw [List.map_map]; rfl
theorem mul_step (n k : Nat) : (n : Int) * ((k : Int) + 1) = (n : Int) * (k : Int) + (n : Int) := by rw [Int.mul_add, Int.mul_one]
theorem mul_five {n k : Nat} (hn : n ≤ 5) (hk : k ≤ n) : 0 ≤ (n : Int) * (k : Int) ∧ (n : Int) * (k : Int) ≤ 25 := by
  have h : n * k ≤ 5 * 5 := Nat.mul_le_mul hn (by omega)
  constructor
  · exact Int.mul_nonneg (by omega) (by omega)
  · have : ((n * k : Nat) : Int) ≤ 25 := by omega
    rwa [Int.natCast_mul] at this

set_option maxHeartbeats 2000000 in
/-- **markIntSS**, at a table of the caller's own. -/
theorem markT_any (base g n : Nat) (G : Nat → Nat) (F : Nat → Nat → Value) (w : World) (h : Tb 3 29 w base (some ⟨g, 0, none⟩) n n n n G (fun _ => n) F) (hn : n ≤ 5) :
    Calls Try.prog 21 #[.slice (some ⟨g, 0, none⟩) n n, .int .i64 1] w fun e w' => e = .returned (.int .i64 (1 + (n : Int) * (n : Int))) ∧ Tb 3 29 w' base (some ⟨g, 0, none⟩) n n n n G (fun _ => n) (fun i j => .int .i64 (1 + (n : Int) * (i : Int) + (j : Int))) ∧ Below base w w' := by
  have H : Hid (Tb 3 29 w base (some ⟨g, 0, none⟩) n n n n G (fun _ => n) (markF F n 0)) := h.congr (fun i j _ _ => by unfold markF; rw [if_neg (Nat.not_lt_zero _)])
  clear h
  go_enter Try.func21, Try.ntmps21
  go_wp2
  go_loopw [1, 5] (fun q i wr => ∃ (k : Nat) (z : Int), k ≤ n ∧ i = .int .i64 k ∧ q = .int .i64 z ∧ Hid (z = 1 + (n : Int) * (k : Int)) ∧ 0 ≤ z ∧ z ≤ 30 ∧ Hid (Tb 3 29 wr base (some ⟨g, 0, none⟩) n n n n G (fun _ => n) (markF F n k)) ∧ Below base w wr) (fun _ i _ => n - (intOf i).toNat)
  case atStart => exact ⟨0, 1, Nat.zero_le _, rfl, rfl, by simp [Hid], by omega, by omega, H, Below.refl _ _⟩
  case round =>
    clear H
    obtain ⟨k, z, hk, rfl, rfl, hz, hz0, hz1, hT, hB⟩ := hrel
    by_cases hlt : k < n
    · have ck := hT.out.row_cell hlt (Nat.le_refl _)
      have hin := hT.out.inner k hlt
      have hbase := (hT.out.lt hlt).1
      obtain ⟨gk, hgk⟩ : ∃ gk, G k = gk := ⟨_, rfl⟩
      rw [hgk] at ck hin hbase
      have HGK := Lib.hid hgk
      have HIN := Lib.hid hin
      clear hgk hin
      go_wp2_with fail
      refine (markInt_step base gk n n _ z _ HIN.out (by omega) hz0 (by omega)).mono ?_
      rintro e w3 ⟨rfl, ho3, hs3⟩
      rw [marks_row] at ho3
      have hT3 := hT.out.anew (by decide) hlt (f := fun (j : Nat) => Value.int .i64 (z + (j : Int))) (by rw [HGK.out]; exact hs3) (by rw [HGK.out]; exact ho3)
      have T3 : Hid (Tb 3 29 w3 base (some ⟨g, 0, none⟩) n n n n G (fun _ => n) (markF F n (k + 1))) := hT3.congr (fun i j _ _ => by
        unfold markF
        by_cases e : i = k
        · subst e; rw [if_pos rfl, if_pos (Nat.lt_succ_self _), hz.out]
        · rw [if_neg e]
          by_cases e2 : i < k
          · rw [if_pos e2, if_pos (by omega)]
          · rw [if_neg e2, if_neg (by omega)])
      have B3 : Below base w w3 := hB.trans ⟨hs3.os, hs3.tape, hs3.output, hs3.size, fun j hj => by
        rcases Nat.lt_or_ge j wr.heap.size with h1 | h1
        · exact hs3.block j h1 (fun e => by injection e with e; omega)
        · exact absurd hj (by
            have := World.block_lt_of_cell? wr _ ck
            have := (World.ownsRow.lt HIN.out gk rfl).2
            omega)⟩
      have hz2 : Hid (z + (n : Int) = 1 + (n : Int) * (((k + 1 : Nat)) : Int)) := by
        unfold Hid; rw [hz.out]; push_cast; rw [mul_step]; omega
      have hz3 : z + (n : Int) ≤ 30 := by
        have h1 := hz2.out
        have h2 := mul_five (k := k + 1) hn hlt
        omega
      clear hT hB ho3 hs3 hT3
      go_wp2
      go_roundw
      case rel => exact ⟨k + 1, z + n, by omega, by go_num, rfl, hz2, by omega, hz3, T3, B3⟩
      case measure => simp [intOf]; omega
    · obtain rfl : k = n := by omega
      have T9 : Hid (Tb 3 29 wr base (some ⟨g, 0, none⟩) k k k k G (fun _ => k) (fun i j => .int .i64 (1 + (k : Int) * (i : Int) + (j : Int)))) := hT.out.congr (fun i j hi _ => by unfold markF; rw [if_pos hi])
      go_wp2
      go_ret
      exact ⟨ret_int hz.out, T9.out, hB⟩

set_option maxHeartbeats 2000000 in
/-- **heldIntSS** finds the marks again. -/
theorem heldT_any (base g n : Nat) (G : Nat → Nat) (w : World) (h : Tb 3 29 w base (some ⟨g, 0, none⟩) n n n n G (fun _ => n) (fun i j => .int .i64 (1 + (n : Int) * (i : Int) + (j : Int)))) (hn : n ≤ 5) :
    Calls Try.prog 22 #[.slice (some ⟨g, 0, none⟩) n n, .int .i64 1] w fun e w' => e = .returned (.int .i64 (1 + (n : Int) * (n : Int))) ∧ w = w' := by
  have H := Lib.hid h
  clear h
  go_enter Try.func22, Try.ntmps22
  go_wp2
  go_loopw [1, 5] (fun q i wr => ∃ (k : Nat) (z : Int), k ≤ n ∧ i = .int .i64 k ∧ q = .int .i64 z ∧ Hid (z = 1 + (n : Int) * (k : Int)) ∧ 0 ≤ z ∧ z ≤ 30 ∧ w = wr) (fun _ i _ => n - (intOf i).toNat)
  case atStart => exact ⟨0, 1, Nat.zero_le _, rfl, rfl, by simp [Hid], by omega, by omega, rfl⟩
  case round =>
    obtain ⟨k, z, hk, rfl, rfl, hz, hz0, hz1, rfl⟩ := hrel
    by_cases hlt : k < n
    · have ck := H.out.row_cell hlt (Nat.le_refl _)
      have hin := H.out.inner k hlt
      obtain ⟨gk, hgk⟩ : ∃ gk, G k = gk := ⟨_, rfl⟩
      rw [hgk] at ck hin
      have HIN : Hid (IsInts w (some ⟨gk, 0, none⟩) n n (marks z n)) := by
        refine IsInts.of_owned (base := base) ?_ (by omega)
        rw [marks_row, hz.out]; exact hin
      have hz2 : Hid (z + (n : Int) = 1 + (n : Int) * (((k + 1 : Nat)) : Int)) := by
        unfold Hid; rw [hz.out]; push_cast; rw [mul_step]; omega
      have hz3 : z + (n : Int) ≤ 30 := by
        have h1 := hz2.out
        have h2 := mul_five (k := k + 1) hn hlt
        omega
      have hzz : decide (z + (n : Int) < 0) = false := decide_eq_false (by omega)
      clear hgk hin
      go_wp2_with fail
      refine (heldInt_any _ n n z _ HIN.out hz0 (by omega)).mono ?_
      rintro e w3 ⟨rfl, rfl⟩
      go_wp2
      go_roundw
      case rel => exact ⟨k + 1, z + n, by omega, by go_num, rfl, hz2, by omega, hz3, by first | trivial | rfl⟩
      case measure => simp [intOf]; omega
    · obtain rfl : k = n := by omega
      go_wp2
      go_ret
      exact ⟨ret_int hz.out, rfl⟩

end Go.Proofs.Ytaaamidkfhabnab

namespace Go.Proofs.Ytaaamidkfhabnab
open Go.RowKit

/-- The decimal digits of a number, none of nought. -/
def digs (n : Nat) : ByteArray := if _h : n = 0 then ByteArray.empty else digs (n / 10) ++ strOfNums [48 + ((n % 10 : Nat) : Int)]
termination_by n
decreasing_by omega
theorem digs_pos {n : Nat} (h : n ≠ 0) : digs n = digs (n / 10) ++ strOfNums [48 + ((n % 10 : Nat) : Int)] := by rw [digs]; simp [h]
theorem digs_zero : digs 0 = ByteArray.empty := by rw [digs]; simp
theorem app_empty (a : ByteArray) : a ++ ⟨#[]⟩ = a := by
  apply ByteArray.ext
  simp [ByteArray.data_append]
theorem app_assoc (a b c : ByteArray) : a ++ b ++ c = a ++ (b ++ c) := by
  apply ByteArray.ext
  simp [ByteArray.data_append]
/-- The text that markText gives. -/
def mT (k : Int) : ByteArray := if k ≤ 0 then ⟨#[109, 48]⟩ else ⟨#[109]⟩ ++ digs k.toNat

set_option maxRecDepth 100000 in
set_option maxHeartbeats 2000000 in
/-- **markText**. -/
theorem markText_as (k : Int) (s : ByteArray) (w : World) (hk0 : 0 ≤ k) (hk : k ≤ 100000000) (hs : mT k = s) :
    Calls Try.prog 42 #[.int .i64 k] w fun e w' => e = .returned (.string s) ∧ Below w.heap.size w w' := by
  obtain ⟨n0, rfl⟩ : ∃ n0 : Nat, k = (n0 : Int) := ⟨k.toNat, by omega⟩
  obtain ⟨G, hG⟩ : ∃ G, w.heap.size = G := ⟨_, rfl⟩
  by_cases hz : (n0 : Int) ≤ 0
  · have hd : decide ((n0 : Int) ≤ 0) = true := decide_eq_true hz
    have HS : Hid (s = ⟨#[109, 48]⟩) := by rw [Hid, ← hs, mT, if_pos hz]
    clear hs
    go_enter Try.func42, Try.ntmps42
    go_wp2
    go_ret
    exact ⟨ret_str HS.out.symm, Below.refl _ _⟩
  · have hd : decide ((n0 : Int) ≤ 0) = false := decide_eq_false hz
    have HS : Hid (s = ⟨#[109]⟩ ++ digs n0) := by rw [Hid, ← hs, mT, if_neg hz]; simp
    clear hs
    go_enter Try.func42, Try.ntmps42
    go_wp2
    go_loopw [0, 3] (fun i o wr => ∃ (n : Nat) (u : ByteArray), n ≤ n0 ∧ i = .int .i64 n ∧ o = .string u ∧ Hid (digs n ++ u = digs n0) ∧ u.size + n ≤ n0 ∧ Below G w wr) (fun i _ _ => (intOf i).toNat)
    case atStart => exact ⟨n0, _, Nat.le_refl _, rfl, rfl, app_empty _, by show 0 + n0 ≤ n0; omega, Below.refl _ _⟩
    case round =>
      obtain ⟨n, u, hn, rfl, rfl, hD, hun, hB⟩ := hrel
      have hBw : Below w.heap.size w wr := hG.symm ▸ hB
      have hGw : G ≤ wr.heap.size := by have := hBw.size; omega
      by_cases hpos : 0 < n
      · have hd2 : decide ((0 : Int) < (n : Int)) = true := decide_eq_true (by omega)
        have hd3 : decide (0 < n) = true := decide_eq_true hpos
        have hmod : (n : Int).tmod 10 = ((n % 10 : Nat) : Int) := by rw [Int.tmod_eq_emod_of_nonneg (by omega)]; omega
        have hdiv : (n : Int).tdiv 10 = ((n / 10 : Nat) : Int) := by rw [Int.tdiv_eq_ediv_of_nonneg (by omega)]; omega
        have hr9 : n % 10 < 10 := Nat.mod_lt _ (by omega)
        obtain ⟨r, hr⟩ : ∃ r, n % 10 = r := ⟨_, rfl⟩
        obtain ⟨d, hd⟩ : ∃ d, n / 10 = d := ⟨_, rfl⟩
        have HDG : Hid (digs n = digs d ++ strOfNums [48 + (r : Int)]) := by rw [Hid, ← hr, ← hd]; exact digs_pos (by omega)
        have hdn : d < n := by omega
        rw [hr] at hr9 hmod
        rw [hd] at hdiv
        clear hr hd
        have hw1 : IntKind.i64.wrap (48 + (r : Int)) = 48 + (r : Int) := IntWalk.i64_in _ (by omega)
        have hw8 : IntKind.u8.wrap (48 + (r : Int)) = 48 + (r : Int) := by simp [IntKind.wrap, IntKind.bits, IntKind.signed]; omega
        have hconv := run_convert_bytes_arg (P := Try.prog) (wr.alloc (.cells #[.int .u8 (48 + (r : Int))] 5)) 77 5 Try.underlying77 Try.underlying5 wr.heap.size 0 1 1 [48 + (r : Int)] rfl (fun i hi => by
          obtain rfl : i = 0 := by omega
          exact World.cell?_alloc_new wr _ _ 0) 9 Try.underlying9
        have HB2 : Hid (Below G w (wr.alloc (.cells #[.int .u8 (48 + (r : Int))] 5))) := hB.alloc hGw _
        have hz1 : (strOfNums [48 + (r : Int)]).size = 1 := by simp [strOfNums_size]
        have hz2 : (strOfNums [48 + (r : Int)] ++ u).size = 1 + u.size := by rw [ByteArray.size_append, hz1]
        have HDS : Hid (digs d ++ (strOfNums [48 + (r : Int)] ++ u) = digs n0) := by rw [Hid, ← app_assoc, ← HDG.out]; exact hD.out
        go_wp2
        refine ⟨⟨d, _, by omega, rfl, rfl, HDS, by rw [hz2]; omega, HB2.out⟩, ?_⟩
        simp [intOf]; omega
      · have hd2 : decide ((0 : Int) < (n : Int)) = false := decide_eq_false (by omega)
        obtain rfl : n = 0 := by omega
        have HU : Hid (u = digs n0) := by have := hD.out; rw [digs_zero] at this; simpa [Hid] using this
        go_wp2
        go_ret
        exact ⟨ret_str (by rw [HS.out, HU.out]), hBw⟩

/-- The marks from k on, of n piles. -/
def marksP (k : Int) (n : Nat) : List Pl := (List.range n).map fun (i : Nat) => (mT (k + 2 * (i : Int)), k + 2 * (i : Int) + 1)
theorem marksP_length (k : Int) (n : Nat) : (marksP k n).length = n := by simp [marksP]
theorem marksP_succ (k : Int) (n : Nat) : marksP k (n + 1) = marksP k n ++ [(mT (k + 2 * (n : Int)), k + 2 * (n : Int) + 1)] := by simp [marksP, List.range_succ]
theorem marksP_t {k : Int} {n j : Nat} (h : j < n) : tAt (marksP k n) j = mT (k + 2 * (j : Int)) := by simp [tAt, marksP, h]
theorem marksP_m {k : Int} {n j : Nat} (h : j < n) : mAt (marksP k n) j = k + 2 * (j : Int) + 1 := by simp [mAt, marksP, h]
/-- The first j are marked. -/
def markToP (ps : List Pl) (k : Int) (j : Nat) : List Pl := marksP k j ++ ps.drop j
theorem markToP_zero (ps : List Pl) (k : Int) : markToP ps k 0 = ps := by simp [markToP, marksP]
theorem markToP_all (ps : List Pl) (k : Int) : markToP ps k ps.length = marksP k ps.length := by simp [markToP]
theorem markToP_length {ps : List Pl} {k : Int} {j : Nat} (h : j ≤ ps.length) : (markToP ps k j).length = ps.length := by simp [markToP, marksP_length]; omega
theorem markToP_step {ps : List Pl} {k : Int} {j : Nat} (h : j < ps.length) : (markToP ps k j).set j (mT (k + 2 * (j : Int)), k + 2 * (j : Int) + 1) = markToP ps k (j + 1) := by
  unfold markToP
  rw [marksP_succ, List.drop_eq_getElem_cons h, List.set_append_right _ _ (by rw [marksP_length]; exact Nat.le_refl _), marksP_length, Nat.sub_self, List.set_cons_zero, List.append_assoc]
  rfl
theorem owns_low {w w' : World} {base n size : Nat} {e : TypeId} {v : Value} {xs : List Value} {row : Option Nat} (h : w.ownsRow base e size v n xs) (hg : w.grownBy w' row) (hr : ∀ i, row = some i → i < base) : w'.ownsRow base e size v n xs := by
  refine h.kept hg ?_
  cases hb : v.ownBlock with
  | none => exact .inl rfl
  | some i => have := (h.lt i hb).1; right; intro e2; have := hr i e2.symm; omega
theorem owns_apart {w w' : World} {base n size g c : Nat} {e : TypeId} {xs : List Value} {row : Option Nat} (h : w.ownsRow base e size (.slice (some ⟨g, 0, none⟩) n c) n xs) (hg : w.grownBy w' row) (hr : row ≠ some g) : w'.ownsRow base e size (.slice (some ⟨g, 0, none⟩) n c) n xs :=
  h.kept hg (.inr (by simpa [Value.ownBlock] using fun e => hr e.symm))
theorem below_grown {w w' : World} (hb : Below w.heap.size w w') (row : Option Nat) : w.grownBy w' row := ⟨hb.os, hb.tape, hb.output, hb.size, fun k hk _ => hb.block k hk⟩

set_option maxRecDepth 100000 in
set_option maxHeartbeats 4000000 in
/-- **markPileS**, at a row of the caller's own: that block alone is written. -/
theorem markP_any (base : Nat) (a : Option Addr) (len cap : Nat) (ps : List Pl) (k : Int) (w : World) (h : w.ownsRow base 45 2 (.slice a len cap) len (cellsP ps)) (hl : len ≤ 1048600) (hk0 : 0 ≤ k) (hk : k ≤ 10000000) :
    Calls Try.prog 15 #[.slice a len cap, .int .i64 k] w fun e w' => e = .returned (.int .i64 (k + 2 * (len : Int))) ∧ w'.ownsRow base 45 2 (.slice a len cap) len (cellsP (marksP k len)) ∧ w.grownBy w' (Value.slice a len cap).ownBlock := by
  have hpl : ps.length = len := by have h1 := h.1; rw [cellsP_length] at h1; omega
  have HPL := Lib.hid hpl; clear hpl
  have HO : Hid (w.ownsRow base 45 2 (.slice a len cap) len (cellsP (markToP ps k 0))) := by rw [markToP_zero]; exact h
  clear h
  obtain ⟨row, hrow⟩ : ∃ row, (Value.slice a len cap).ownBlock = row := ⟨_, rfl⟩
  have HROW := Lib.hid hrow
  have HG0 : Hid (w.grownBy w row) := ⟨rfl, rfl, rfl, Nat.le_refl _, fun _ _ _ => rfl⟩
  rw [hrow]
  clear hrow
  go_enter Try.func15, Try.ntmps15
  go_wp2
  go_loopw [1, 5] (fun q i wr => ∃ j : Nat, j ≤ len ∧ i = .int .i64 j ∧ q = .int .i64 (k + 2 * (j : Int)) ∧ Hid (wr.ownsRow base 45 2 (.slice a len cap) len (cellsP (markToP ps k j))) ∧ Hid (w.grownBy wr row)) (fun _ i _ => len - (intOf i).toNat)
  case atStart => exact ⟨0, Nat.zero_le _, rfl, by simp, HO, HG0⟩
  case round =>
    obtain ⟨j, hj, rfl, rfl, ho, hG⟩ := hrel
    by_cases hlt : j < len
    · obtain ⟨g, c', hv⟩ := some_of_owns ho.out (by omega)
      injection hv with e1 _ e3
      subst e1; subst e3
      have hrg : row = some g := HROW.out.symm
      obtain ⟨s, hs⟩ : ∃ s, mT (k + 2 * (j : Int)) = s := ⟨_, rfl⟩
      obtain ⟨q, hq⟩ : ∃ q, k + 2 * (j : Int) = q := ⟨_, rfl⟩
      have hjp : j < ps.length := by rw [HPL.out]; exact hlt
      have hjm : j < (markToP ps k j).length := by rw [markToP_length (by omega)]; exact hjp
      have HST : Hid ((markToP ps k j).set j (s, q + 1) = markToP ps k (j + 1)) := by rw [Hid, ← hs, ← hq]; exact markToP_step hjp
      have hq0 : 0 ≤ q ∧ q ≤ 20000000 := by omega
      have hqj : k + 2 * ((j : Int) + 1) = q + 1 + 1 := by omega
      rw [hq] at hs ⊢
      have HS := Lib.hid hs
      clear hs hq
      have hw1 : IntKind.i64.wrap (q + 1) = q + 1 := IntWalk.i64_in _ (by omega)
      have hw2 : IntKind.i64.wrap (q + 1 + 1) = q + 1 + 1 := IntWalk.i64_in _ (by omega)
      go_wp2_with fail
      refine (markText_as q s _ (by omega) (by omega) HS.out).mono ?_
      rintro e w1 ⟨rfl, hb1⟩
      have O1 := Lib.hid (owns_below ho.out hb1)
      have S1 := Lib.hid (O1.out.stored (j * 2) (.string s))
      have S2 := Lib.hid (S1.out.1.stored (j * 2 + 1) (.int .i64 (q + 1)))
      have x0 : w1.cell? ⟨g, j * 2, none⟩ = some (.string (tAt (markToP ps k j) j)) := by rw [O1.out.cellAt (j * 2) (by omega)]; exact cellsP_text _ j hjm
      have f0 : w1.frozen? ⟨g, j * 2, none⟩ = false := O1.out.frozenAt (j * 2)
      have x1 : (w1.setCell ⟨g, j * 2, none⟩ (.string s)).cell? ⟨g, j * 2 + 1, none⟩ = some (.int .i64 (mAt (markToP ps k j) j)) := by
        rw [S1.out.1.cellAt (j * 2 + 1) (by omega), List.getElem?_set_ne (by omega)]
        exact cellsP_many _ j hjm
      have f1 : (w1.setCell ⟨g, j * 2, none⟩ (.string s)).frozen? ⟨g, j * 2 + 1, none⟩ = false := S1.out.1.frozenAt (j * 2 + 1)
      have GG : Hid (w.grownBy ((w1.setCell ⟨g, j * 2, none⟩ (.string s)).setCell ⟨g, j * 2 + 1, none⟩ (.int .i64 (q + 1))) row) := by
        rw [hrg] at hG ⊢
        exact ((hG.out.trans (below_grown hb1 _)).trans S1.out.2).trans S2.out.2
      clear hb1 hrg
      go_wp2
      go_roundw
      case rel => exact ⟨j + 1, by omega, by go_num, by push_cast; rw [hqj], by rw [Hid, ← HST.out, ← cells_set2 hjm]; exact S2.out.1, GG⟩
      case measure => simp [intOf]; omega
    · obtain rfl : j = len := by omega
      go_wp2
      go_ret
      refine ⟨rfl, ?_, hG.out⟩
      have := ho.out
      rw [← HPL.out, markToP_all] at this
      rw [← HPL.out]; exact this

end Go.Proofs.Ytaaamidkfhabnab

namespace Go.Proofs.Ytaaamidkfhabnab
open Go.RowKit

theorem IsRows.empty8 (w : World) (a : Option Addr) (cap : Nat) : IsRows w a 0 cap [] := ⟨rfl, Nat.zero_le _, by omega, fun h => by omega⟩
theorem ptopF_short {ps : List Pl} {n : Int} : (ptopF ps n).length ≤ 5 := by
  unfold ptopF
  cases h : fitsB ps n
  · simp
  · obtain ⟨_, h1, h5, _⟩ := fits_parts h
    simp only [if_true]
    exact Nat.le_trans (candTo_short _ _) (by omega)
theorem pbestF_short {ps : List Pl} {n : Int} : (pbestF ps n).length ≤ 5 := by
  unfold pbestF
  cases h : fitsB ps n
  · simp
  · obtain ⟨_, h1, h5, _⟩ := fits_parts h
    simp only [if_true]
    exact Nat.le_trans (candTo_short _ _) (by omega)
theorem Tb.low {E R : TypeId} {w w' : World} {base len cap k n : Nat} {a : Option Addr} {G C : Nat → Nat} {F : Nat → Nat → Value} {row : Option Nat} (h : Tb E R w base a len cap k n G C F) (hg : w.grownBy w' row) (hr : ∀ i, row = some i → i < base) : Tb E R w' base a len cap k n G C F :=
  ⟨by obtain ⟨V, h1, h2⟩ := h.outer; exact ⟨V, owns_low h1 hg hr, h2⟩, fun j hj => owns_low (h.inner j hj) hg hr, h.order⟩
set_option maxHeartbeats 1000000 in
theorem markT_none (k : Int) (w : World) : Calls Try.prog 21 #[.slice none 0 0, .int .i64 k] w fun e w' => e = .returned (.int .i64 k) ∧ w = w' := by
  go_enter Try.func21, Try.ntmps21
  go_wp2
  go_loopw [1, 5] (fun q i wr => i = .int .i64 0 ∧ q = .int .i64 k ∧ w = wr) (fun _ _ _ => 0)
  case atStart => exact ⟨rfl, rfl, rfl⟩
  case round =>
    obtain ⟨rfl, rfl, rfl⟩ := hrel
    go_wp2
    go_ret
    exact ⟨rfl, rfl⟩
set_option maxHeartbeats 1000000 in
theorem heldT_none (k : Int) (w : World) : Calls Try.prog 22 #[.slice none 0 0, .int .i64 k] w fun e w' => e = .returned (.int .i64 k) ∧ w = w' := by
  go_enter Try.func22, Try.ntmps22
  go_wp2
  go_loopw [1, 5] (fun q i wr => i = .int .i64 0 ∧ q = .int .i64 k ∧ w = wr) (fun _ _ _ => 0)
  case atStart => exact ⟨rfl, rfl, rfl⟩
  case round =>
    obtain ⟨rfl, rfl, rfl⟩ := hrel
    go_wp2
    go_ret
    exact ⟨rfl, rfl⟩

end Go.Proofs.Ytaaamidkfhabnab
