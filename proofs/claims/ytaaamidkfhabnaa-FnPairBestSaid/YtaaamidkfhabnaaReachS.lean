/-
  spec.l13Reach: from whom one comes to whom, in memory of the call's own.
-/
import Derived.Test.YtaaamidkfhabnaaWarP
import Derived.Test.YtaaamidkfhabnaaGrp10
import Derived.Deep.QuietTactic
import Derived.BigQuiet
import Derived.StillTailTactics
import Derived.Test.YtaaamidkfhabnaaGrp4
import Derived.Test.YtaaamidkfhabnaaGrp7
namespace Go.Proofs.Ytaaamidkfhabnaa
open Go.RowKit

attribute [local go_sem] Oper.semAt_some

theorem bool_info8 : (Try.prog.info? 4).map (fun i => (i.zero, i.size, i.bytes)) = some (some (.bool false), 1, 1) := by kernel_rfl
theorem bools_info8 : (Try.prog.info? 69).map (fun i => (i.zero, i.size, i.bytes)) = some (some (.slice none 0 0), 1, 24) := by kernel_rfl
theorem owns_head {w : World} {base n size cap : Nat} {e : TypeId} {a : Option Addr} {xs : List Value} (h : w.ownsRow base e size (.slice a n cap) n xs) (hn : 0 < n) : ∃ g, a = some ⟨g, 0, none⟩ ∧ base ≤ g ∧ g < w.heap.size := by
  rcases h.2 with ⟨_, e⟩ | ⟨g, c, cur, e1, hb, hg, _⟩
  · omega
  · injection e1 with e1 _ e3
    exact ⟨g, e1, hb, (Array.getElem?_eq_some_iff.1 hg).1⟩
theorem range_snoc {n : Nat} (f : Nat → Value) : (List.range (n + 1)).map f = (List.range n).map f ++ [f n] := by rw [List.range_succ, List.map_append]; rfl

set_option maxRecDepth 100000 in
set_option maxHeartbeats 8000000 in
/-- **l13Reach**. -/
theorem l13Reach_any (n base g cap : Nat) (G C : Nat → Nat) (M : Nat → Nat → Int) (w : World) (hT : Tb 3 30 w base (some ⟨g, 0, none⟩) n cap n n G C (fun i j => .int .i64 (M i j))) (hn1 : 1 ≤ n) (hn : n ≤ 5) :
    Calls Try.prog 63 #[.slice (some ⟨g, 0, none⟩) n cap] w fun e w' => ∃ a' cap' G C, e = .returned (.slice a' n cap') ∧ Tb 4 69 w' w.heap.size a' n cap' n n G C (fun x y => .bool (reachL M n x y)) ∧ Below w.heap.size w w' := by
  obtain ⟨i0, hi, hz0, hz1, hz2⟩ := info_parts bool_info8
  obtain ⟨i1, hi1, hy0, hy1, hy2⟩ := info_parts bools_info8
  have HM := Lib.hid hT
  clear hT
  obtain ⟨G0, hG⟩ : ∃ G, w.heap.size = G := ⟨_, rfl⟩
  have HE0 : Hid ((w.alloc (.cells #[] 69)).ownsRow G0 69 1 (.slice (some ⟨w.heap.size, 0, none⟩) 0 0) 0 []) := World.ownsRow_lit (base := G0) (e := 69) (size := 1) w #[] 0 (by omega) (by unfold maxLen; omega) rfl
  have HB0 : Below G0 w (w.alloc (.cells #[] 69)) := (Below.refl G0 w).alloc (by omega) _
  go_enter Try.func63, Try.ntmps63
  go_wp2
  go_loopw [3, 4, 5, 6] (fun rv xv _ _ wr => ∃ (x : Nat) (a : Option Addr) (cap : Nat), x ≤ n ∧ xv = .int .i64 (x : Int) ∧ rv = .slice a x cap ∧ Hid (∃ G C, Tb 4 69 wr G0 a x cap x n G C (fun x y => .bool (atLeast M x y))) ∧ Below G0 w wr) (fun _ xv _ _ _ => n - (intOf xv).toNat)
  case atStart => exact ⟨0, _, _, Nat.zero_le _, rfl, rfl, ⟨fun _ => 0, fun _ => 0, Tb.start (by have := HE0.out; rwa [hG] at this)⟩, HB0⟩
  case round =>
    clear HE0 HB0
    rename World => wx
    obtain ⟨x, ao, co, hx, rfl, rfl, hTT, hB⟩ := hrel
    have hGs : G0 ≤ wx.heap.size := by have := hB.size; rw [hG] at this; exact this
    by_cases hlt : x < n
    · obtain ⟨gr, hgr⟩ : ∃ gr, wx.heap.size = gr := ⟨_, rfl⟩
      have HR0 : Hid ((wx.alloc (.cells #[] 4)).ownsRow gr 4 1 (.slice (some ⟨gr, 0, none⟩) 0 0) 0 ((List.range 0).map (fun j => Value.bool (atLeast M x j)))) := by
        have := World.ownsRow_lit (base := gr) (e := 4) (size := 1) wx #[] 0 (by omega) (by unfold maxLen; omega) rfl
        rw [hgr] at this; exact this
      have hB1 : Below gr wx (wx.alloc (.cells #[] 4)) := (Below.refl gr wx).alloc (by omega) _
      have hGg : G0 ≤ gr := by omega
      have HGR := Lib.hid hgr
      go_wp2
      clear hgr
      go_loopw [5, 6] (fun rv yv wr => ∃ (y : Nat) (ar : Option Addr) (cr : Nat), y ≤ n ∧ yv = .int .i64 (y : Int) ∧ rv = .slice ar y cr ∧ Hid (wr.ownsRow gr 4 1 (.slice ar y cr) y ((List.range y).map (fun j => Value.bool (atLeast M x j)))) ∧ Below gr wx wr) (fun _ yv _ => n - (intOf yv).toNat)
      case atStart => exact ⟨0, _, _, Nat.zero_le _, rfl, rfl, HR0, hB1⟩
      case round =>
        clear HR0 hB1
        rename World => w2
        obtain ⟨y, ar, cr, hyn, rfl, rfl, ho, hb2⟩ := hrel
        have hBw : Below G0 w w2 := hB.trans (hb2.mono hGg)
        by_cases hlt2 : y < n
        · have hgw : gr ≤ w2.heap.size := by have := hb2.size; have := HGR.out; omega
          have T2 := HM.out.under (hG.symm ▸ hBw)
          have rx := T2.row_cell hlt (Nat.le_refl _)
          have ry := T2.row_cell hlt2 (Nat.le_refl _)
          have cxy := T2.cell hlt hlt2
          have cyx := T2.cell hlt2 hlt
          obtain ⟨gx, hgx⟩ : ∃ gx, G x = gx := ⟨_, rfl⟩
          obtain ⟨cx, hcx⟩ : ∃ cx, C x = cx := ⟨_, rfl⟩
          obtain ⟨gy, hgy⟩ : ∃ gy, G y = gy := ⟨_, rfl⟩
          obtain ⟨cy, hcy⟩ : ∃ cy, C y = cy := ⟨_, rfl⟩
          obtain ⟨p, hp⟩ : ∃ p, M x y = p := ⟨_, rfl⟩
          obtain ⟨q, hq⟩ : ∃ q, M y x = q := ⟨_, rfl⟩
          rw [hgx] at rx cxy
          rw [hgy] at ry cyx
          rw [hcx] at rx
          rw [hcy] at ry
          simp only [hp] at cxy
          simp only [hq] at cyx
          obtain ⟨v, hv⟩ : ∃ v, decide (q ≤ p) = v := ⟨_, rfl⟩
          have HV : Hid (atLeast M x y = v) := by unfold Hid atLeast; rw [hp, hq, hv]
          clear T2 hgx hgy hcx hcy hp hq
          have hxi : (x : Int) < (n : Int) := by omega
          have hyi : (y : Int) < (n : Int) := by omega
          have ODA : Hid ((w2.alloc (.cells #[.bool v] 4)).drew.ownsRow gr 4 1 (.slice ar y cr) y ((List.range y).map (fun j => Value.bool (atLeast M x j)))) := (ho.out.alloc _).drew
          have NC : Hid (∀ j u, [Value.bool v][j]? = some u → (w2.alloc (.cells #[.bool v] 4)).drew.cell? ((⟨w2.heap.size, 0, none⟩ : Addr).add j) = some u) := cell_one_new w2 _ _
          have M1 : y + 1 ≤ maxLen := by unfold maxLen; omega
          have N1 : (y + 1) * 1 ≤ 140737488355328 := by omega
          have S1 : Hid (gr ≤ (w2.alloc (.cells #[.bool v] 4)).drew.heap.size) := by unfold Hid; simp; omega
          have OC : Hid (∀ u ∈ [Value.bool v], u.oneCell' = true) := by unfold Hid; simp [Value.oneCell']
          have BA : Below gr wx (w2.alloc (.cells #[.bool v] 4)).drew := (hb2.alloc (by omega) _).drew
          have SA : wx.heap.size ≤ (w2.alloc (.cells #[.bool v] 4)).drew.heap.size := BA.size
          clear hb2
          go_wp2_with fail
          go_region_law (first
            | (refine step_append_own (by rfl) _ _ _ (by rfl) gr 4 i0 (.bool false) 1 1 Try.underlying69 hi hz0 hz1 hz2 rfl Nat.one_pos (.slice ar y cr) y ((List.range y).map (fun j => Value.bool (atLeast M x j))) (by rfl) ODA.out ⟨w2.heap.size, 0, none⟩ 1 _ [.bool v] (by rfl) (by rfl) NC.out OC.out M1 N1 S1.out ?_; intro v' w4 hown' hgrow _; obtain ⟨a4, cap4, rfl⟩ := owns_slice hown'))
          all_goals
            have hrowb : ∀ j, (Value.slice ar y cr).ownBlock = some j → gr ≤ j := fun j ej => (ODA.out.lt j ej).1
            have hB4 : Below gr wx w4 := BA.grown hgrow (by have := HGR.out; omega) (fun j e => hrowb j e)
            have HO4 : Hid (w4.ownsRow gr 4 1 (.slice a4 (y + 1) cap4) (y + 1) ((List.range (y + 1)).map (fun j => Value.bool (atLeast M x j)))) := by
              unfold Hid; rw [range_snoc, HV.out]; exact hown'
            clear hown' hgrow hrowb ho
            go_wp2
            go_roundw
            case rel => exact ⟨y + 1, a4, cap4, by omega, by go_num, rfl, HO4, hB4⟩
            case measure => simp [intOf]; omega
        · obtain rfl : y = n := by omega
          obtain ⟨gb, rfl, hgb, -⟩ := owns_head ho.out (by omega)
          have hrow : Hid (w2.ownsRow G0 4 1 (.slice (some ⟨gb, 0, none⟩) y cr) y ((List.range y).map (fun j => Value.bool (atLeast M x j)))) := World.ownsRow.mono ho.out hGg
          obtain ⟨G', C', hT'⟩ := hTT.out
          have HT2 := Lib.hid (hT'.under (HGR.out.symm ▸ hb2))
          have hlast : ∀ j, j < x → G' j < gb := fun j hj => by have := (hT'.lt hj).2; rw [HGR.out] at this; omega
          obtain ⟨V, hV1, hV2⟩ := HT2.out.outer
          have HV1 := Lib.hid hV1
          have HV2 := Lib.hid hV2
          clear hTT hT' ho hV1 hV2
          go_wp2_with (at_builtin; refine wpList_append_own _ rfl _ _ 65 rfl G0 69 i1 (.slice none 0 0) 1 24 Try.underlying65 hi1 hy0 hy1 hy2 rfl (by decide) _ _ _ rfl (HV1.out.alloc _) ⟨w2.heap.size, 0, none⟩ 1 1 [.slice (some ⟨gb, 0, none⟩) y cr] rfl rfl (cell_one_new _ _ _) (by simp [Value.oneCell']) (by unfold maxLen; omega) (by omega) (by have := hBw.size; simp; omega) ?_; intro v' w4 hown' hgrow _; obtain ⟨a4, cap4, rfl⟩ := owns_slice hown')
          have hrowb : ∀ j, (Value.slice ao x co).ownBlock = some j → G0 ≤ j := fun j ej => (HV1.out.lt j ej).1
          have hB4 : Below G0 w w4 := (hBw.alloc (by have := hBw.size; omega) (.cells #[.slice (some ⟨gb, 0, none⟩) y cr] 69)).grown hgrow (by have := hBw.size; simp; omega) (fun j e => hrowb j e)
          have HT4 := Lib.hid (Tb.push (w' := w4) (f := fun j => Value.bool (atLeast M x j)) (c2 := cr) (by decide) (HT2.out.under ((Below.refl _ w2).alloc (Nat.le_refl _) _)) (HV1.out.alloc _) HV2.out (hrow.out.alloc _) hlast hown' hgrow)
          have HT5 : Hid (∃ G C, Tb 4 69 w4 G0 a4 (x + 1) cap4 (x + 1) y G C (fun x y => .bool (atLeast M x y))) :=
            ⟨_, _, HT4.out.congr (fun i j hi hj => by
              by_cases e : i = x
              · subst e; simp
              · simp [e])⟩
          clear hown' hgrow hrowb HT4 HV1 HV2 HT2 hrow
          go_wp2
          go_roundw
          case rel => exact ⟨x + 1, a4, cap4, by omega, by go_num, rfl, HT5, hB4⟩
          case measure => simp [intOf]; omega
    · obtain rfl : x = n := by omega
      obtain ⟨G', C', hT'⟩ := hTT.out
      obtain ⟨go, rfl, hgo, hgl, -⟩ := hT'.head (by omega)
      have HT := Lib.hid hT'
      clear hTT hT' hgo hgl
      go_wp2
      go_loopw [7, 8, 9] (fun kv _ _ wr => ∃ k : Nat, k ≤ x ∧ kv = .int .i64 (k : Int) ∧ Hid (Tb 4 69 wr G0 (some ⟨go, 0, none⟩) x co x x G' C' (fun i j => .bool (reachTo (atLeast M) k i j))) ∧ Below G0 w wr) (fun kv _ _ _ => x - (intOf kv).toNat)
      case atStart => exact ⟨0, Nat.zero_le _, rfl, HT, hB⟩
      case round =>
        clear HT hB hGs
        obtain ⟨k, hk, rfl, hT1, hB⟩ := hrel
        by_cases hlt : k < x
        · obtain ⟨P, hP⟩ : ∃ P, reachTo (atLeast M) k = P := ⟨_, rfl⟩
          have HP : Hid (reachTo (atLeast M) (k + 1) = stageB P k) := by unfold Hid; rw [reachTo_succ, hP]
          rw [hP] at hT1
          have HT1 : Hid (Tb 4 69 wr G0 (some ⟨go, 0, none⟩) x co x x G' C' (fun i j => .bool (curB P k 0 0 i j))) := hT1.out.congr (fun i j _ _ => by rw [curB_start])
          clear hP hT1
          go_wp2
          go_loopw [8, 9] (fun av _ wr => ∃ a : Nat, a ≤ x ∧ av = .int .i64 (a : Int) ∧ Hid (Tb 4 69 wr G0 (some ⟨go, 0, none⟩) x co x x G' C' (fun i j => .bool (curB P k a 0 i j))) ∧ Below G0 w wr) (fun av _ _ => x - (intOf av).toNat)
          case atStart => exact ⟨0, Nat.zero_le _, rfl, HT1, hB⟩
          case round =>
            clear HT1 hB
            obtain ⟨a, ha, rfl, hT2, hB⟩ := hrel
            by_cases hlta : a < x
            · go_wp2
              go_loopw [9] (fun bv wr => ∃ b : Nat, b ≤ x ∧ bv = .int .i64 (b : Int) ∧ Hid (Tb 4 69 wr G0 (some ⟨go, 0, none⟩) x co x x G' C' (fun i j => .bool (curB P k a b i j))) ∧ Below G0 w wr) (fun bv _ => x - (intOf bv).toNat)
              case atStart => exact ⟨0, Nat.zero_le _, rfl, hT2, hB⟩
              case round =>
                clear hT2 hB
                rename World => w5
                obtain ⟨b, hb, rfl, hT3, hB⟩ := hrel
                by_cases hltb : b < x
                · have ra := hT3.out.row_cell hlta (Nat.le_refl _)
                  have rk := hT3.out.row_cell hlt (Nat.le_refl _)
                  have cab := hT3.out.cell hlta hltb
                  have cak := hT3.out.cell hlta hlt
                  have ckb := hT3.out.cell hlt hltb
                  have fab := hT3.out.frozen hlta b
                  simp only [curB_at] at cab
                  simp only [curB_col] at cak
                  simp only [curB_row] at ckb
                  obtain ⟨p, hp⟩ : ∃ p, P a b = p := ⟨_, rfl⟩
                  obtain ⟨q, hq⟩ : ∃ q, P a k = q := ⟨_, rfl⟩
                  obtain ⟨r, hr⟩ : ∃ r, P k b = r := ⟨_, rfl⟩
                  have hst : stageB P k a b = (p || (q && r)) := by unfold stageB; rw [hp, hq, hr]
                  rw [hp] at cab
                  rw [hq] at cak
                  rw [hr] at ckb
                  have hset := hT3.out.set (by decide) hlta hltb (.bool (p || (q && r)))
                  have T6 : Hid (Tb 4 69 (w5.setCell ⟨G' a, b, none⟩ (.bool (p || (q && r)))) G0 (some ⟨go, 0, none⟩) x co x x G' C' (fun i j => .bool (curB P k a (b + 1) i j))) :=
                    hset.1.congr (fun i j _ _ => by
                      rw [← curB_step (i := i) (j := j) hst.symm]
                      split <;> rfl)
                  have B6 : Below G0 w (w5.setCell ⟨G' a, b, none⟩ (.bool (p || (q && r)))) := hB.setCell (p := ⟨G' a, b, none⟩) (hT3.out.lt hlta).1 _
                  obtain ⟨ga, hga⟩ : ∃ ga, G' a = ga := ⟨_, rfl⟩
                  obtain ⟨ca, hca⟩ : ∃ ca, C' a = ca := ⟨_, rfl⟩
                  obtain ⟨gk, hgk⟩ : ∃ gk, G' k = gk := ⟨_, rfl⟩
                  obtain ⟨ck, hck⟩ : ∃ ck, C' k = ck := ⟨_, rfl⟩
                  rw [hga] at ra cab cak fab T6 B6
                  rw [hca] at ra
                  rw [hgk] at rk ckb
                  rw [hck] at rk
                  have hai : (a : Int) < (x : Int) := by omega
                  have hbi : (b : Int) < (x : Int) := by omega
                  have hki : (k : Int) < (x : Int) := by omega
                  clear hset hst hp hq hr hga hca hgk hck hT3
                  have T7 : Hid (Tb 4 69 (w5.drew.setCell ⟨ga, b, none⟩ (.bool (p || (q && r)))) G0 (some ⟨go, 0, none⟩) x co x x G' C' (fun i j => .bool (curB P k a (b + 1) i j))) := T6.out.under (Below.refl _ _).drew
                  have B7 : Below G0 w (w5.drew.setCell ⟨ga, b, none⟩ (.bool (p || (q && r)))) := B6.drew
                  have cabd : w5.drew.cell? ⟨ga, b, none⟩ = some (.bool p) := cab
                  have fabd : w5.drew.frozen? ⟨ga, b, none⟩ = false := fab
                  clear T6 B6 fab
                  cases p
                  · cases q
                    · go_wp2_with fail
                      refine region_quiet_tail 31 (by kernel_rfl) (by kernel_rfl) ?_
                      simp only [List.take_succ_cons, List.take_zero, List.drop_succ_cons, List.drop_zero]
                      repeat (go_big_quiet_step (fail))
                      refine wpQuiet_nil ?_
                      generalize w5.drew = w6 at T7 B7 cabd fabd ⊢
                      go_wp2
                      go_roundw
                      case rel => exact ⟨b + 1, by omega, by go_num, T7, B7⟩
                      case measure => simp [intOf]; omega
                    · go_wp2_with fail
                      refine region_quiet_tail 31 (by kernel_rfl) (by kernel_rfl) ?_
                      simp only [List.take_succ_cons, List.take_zero, List.drop_succ_cons, List.drop_zero]
                      repeat (go_big_quiet_step (fail))
                      refine wpQuiet_nil ?_
                      generalize w5.drew = w6 at T7 B7 cabd fabd ⊢
                      go_wp2
                      go_roundw
                      case rel => exact ⟨b + 1, by omega, by go_num, T7, B7⟩
                      case measure => simp [intOf]; omega
                  · go_wp2_with fail
                    refine region_quiet_tail 31 (by kernel_rfl) (by kernel_rfl) ?_
                    simp only [List.take_succ_cons, List.take_zero, List.drop_succ_cons, List.drop_zero]
                    repeat (go_big_quiet_step (fail))
                    refine wpQuiet_nil ?_
                    generalize w5.drew = w6 at T7 B7 cabd fabd ⊢
                    go_wp2
                    go_roundw
                    case rel => exact ⟨b + 1, by omega, by go_num, T7, B7⟩
                    case measure => simp [intOf]; omega
                · obtain rfl : b = x := by omega
                  have T6 : Hid (Tb 4 69 w5 G0 (some ⟨go, 0, none⟩) b co b b G' C' (fun i j => .bool (curB P k (a + 1) 0 i j))) :=
                    hT3.out.congr (fun i j _ hj => by rw [curB_next hj])
                  go_wp2
                  go_roundw
                  case rel => exact ⟨a + 1, by omega, by go_num, T6, hB⟩
                  case measure => simp [intOf]; omega
            · obtain rfl : a = x := by omega
              have T6 : Hid (Tb 4 69 wr G0 (some ⟨go, 0, none⟩) a co a a G' C' (fun i j => .bool (reachTo (atLeast M) (k + 1) i j))) :=
                hT2.out.congr (fun i j hi _ => by rw [curB_end hi, HP.out])
              go_wp2
              go_roundw
              case rel => exact ⟨k + 1, by omega, by go_num, T6, hB⟩
              case measure => simp [intOf]; omega
        · obtain rfl : k = x := by omega
          go_wp2
          go_ret
          exact ⟨_, co, G', C', rfl, hG.symm ▸ hT1.out, hG.symm ▸ hB⟩

end Go.Proofs.Ytaaamidkfhabnaa
