/-
  spec.l13Paths: the strengths of the strongest paths of a table, in memory of the call's own.
-/
import Derived.Test.YtaaamidkfhabnaaWarP
import Derived.Test.YtaaamidkfhabnaaGrp10
import Derived.Deep.QuietTactic
import Derived.BigQuiet
import Derived.Test.YtaaamidkfhabnaaGrp7
namespace Go.Proofs.Ytaaamidkfhabnaa
open Go.RowKit

attribute [local go_sem] Oper.semAt_some

/-- The row that is being filled. -/
theorem stepsRow_zero (n : Nat) (M : Nat → Nat → Int) (x : Nat) : (madeCells (Value.int .i64 0).cells (n * 1)).toList = (List.range n).map (fun j => Value.int .i64 (stepsTo M x 0 j)) := by
  rw [show (Value.int .i64 0).cells = #[.int .i64 0] from rfl, toList_madeCells_one, Nat.mul_one]
  apply List.ext_getElem
  · simp
  · intro i h1 h2; simp [stepsTo]
theorem map_set_at {n y : Nat} {f : Nat → Value} {v : Value} : ((List.range n).map f).set y v = (List.range n).map (fun j => if j = y then v else f j) := by
  apply List.ext_getElem
  · simp
  · intro j h1 h2
    simp only [List.getElem_set, List.getElem_map, List.getElem_range]
    by_cases e : y = j
    · subst e; simp
    · rw [if_neg e, if_neg (fun g => e g.symm)]
theorem stepsRow_some {n x y : Nat} {M : Nat → Nat → Int} (h : M y x < M x y) : ((List.range n).map (fun j => Value.int .i64 (stepsTo M x y j))).set y (.int .i64 (M x y)) = (List.range n).map (fun j => Value.int .i64 (stepsTo M x (y + 1) j)) := by
  rw [map_set_at]
  refine List.map_congr_left (fun j _ => ?_)
  rw [← stepsTo_some M h j]
  split <;> rfl
theorem stepsRow_none {n x y : Nat} {M : Nat → Nat → Int} (h : M x y ≤ M y x) : (List.range n).map (fun j => Value.int .i64 (stepsTo M x y j)) = (List.range n).map (fun j => Value.int .i64 (stepsTo M x (y + 1) j)) :=
  List.map_congr_left (fun j _ => by rw [stepsTo_none M h j])
theorem stepsRow_end {n x : Nat} {M : Nat → Nat → Int} : (List.range n).map (fun j => Value.int .i64 (stepsTo M x n j)) = (List.range n).map (fun j => Value.int .i64 (steps M x j)) :=
  List.map_congr_left (fun j hj => by unfold stepsTo; rw [if_pos (List.mem_range.1 hj)])

set_option maxRecDepth 100000 in
set_option maxHeartbeats 8000000 in
/-- **l13Paths**. -/
theorem l13Paths_any (n base g cap : Nat) (G C : Nat → Nat) (M : Nat → Nat → Int) (w : World) (hT : Tb 3 30 w base (some ⟨g, 0, none⟩) n cap n n G C (fun i j => .int .i64 (M i j))) (hn1 : 1 ≤ n) (hn : n ≤ 5) :
    Calls Try.prog 68 #[.slice (some ⟨g, 0, none⟩) n cap] w fun e w' => ∃ a' cap' G C, e = .returned (.slice a' n cap') ∧ Tb 3 30 w' w.heap.size a' n cap' n n G C (fun x y => .int .i64 (pathL M n x y)) ∧ Below w.heap.size w w' := by
  obtain ⟨i0, hi, hz0, hz1, hz2⟩ := info_parts int_info
  obtain ⟨i1, hi1, hy0, hy1, hy2⟩ := info_parts slice_info
  have HM := Lib.hid hT
  clear hT
  obtain ⟨G0, hG⟩ : ∃ G, w.heap.size = G := ⟨_, rfl⟩
  have HE0 : Hid ((w.alloc (.cells #[] 30)).ownsRow G0 30 1 (.slice (some ⟨w.heap.size, 0, none⟩) 0 0) 0 []) := World.ownsRow_lit (base := G0) (e := 30) (size := 1) w #[] 0 (by omega) (by unfold maxLen; omega) rfl
  have HB0 : Below G0 w (w.alloc (.cells #[] 30)) := (Below.refl G0 w).alloc (by omega) _
  go_enter Try.func68, Try.ntmps68
  go_wp2
  go_loopw [3, 4, 5, 6] (fun rv xv _ _ wr => ∃ (x : Nat) (a : Option Addr) (cap : Nat), x ≤ n ∧ xv = .int .i64 (x : Int) ∧ rv = .slice a x cap ∧ Hid (∃ G C, Tb 3 30 wr G0 a x cap x n G C (fun x y => .int .i64 (steps M x y))) ∧ Below G0 w wr) (fun _ xv _ _ _ => n - (intOf xv).toNat)
  case atStart => exact ⟨0, _, _, Nat.zero_le _, rfl, rfl, ⟨fun _ => 0, fun _ => 0, Tb.start (by have := HE0.out; rwa [hG] at this)⟩, HB0⟩
  case round =>
    clear HE0 HB0
    rename World => wx
    obtain ⟨x, ao, co, hx, rfl, rfl, hTT, hB⟩ := hrel
    have hGs : G0 ≤ wx.heap.size := by have := hB.size; rw [hG] at this; exact this
    by_cases hlt : x < n
    · go_wp2_with (at_make; refine wpList_make_full _ rfl _ _ 30 rfl G0 3 i0 (.int .i64 0) 1 Try.underlying30 hi hz0 hz1 .i64 .i64 _ _ n rfl rfl rfl rfl (by rw [hz2]; omega) (by unfold maxLen; omega) hGs ?_; intro w1 hown hgrow)
      obtain ⟨gr, hgr⟩ : ∃ gr, wx.heap.size = gr := ⟨_, rfl⟩
      rw [hgr] at hown ⊢
      have hB1 : Below gr wx w1 := (Below.refl gr wx).grown hgrow (by omega) (fun k e => by cases e)
      have hsz1 : gr < w1.heap.size := (hown.lt gr rfl).2
      have HGR := Lib.hid hgr
      rw [stepsRow_zero n M x] at hown
      have HO := Lib.hid hown
      have hGg : G0 ≤ gr := by omega
      clear hown hgrow hgr
      go_wp2
      go_loopw [6] (fun yv wr => ∃ y : Nat, y ≤ n ∧ yv = .int .i64 (y : Int) ∧ Hid (wr.ownsRow G0 3 1 (.slice (some ⟨gr, 0, none⟩) n n) n ((List.range n).map (fun j => Value.int .i64 (stepsTo M x y j)))) ∧ Below gr wx wr ∧ gr < wr.heap.size) (fun yv _ => n - (intOf yv).toNat)
      case atStart => exact ⟨0, Nat.zero_le _, rfl, HO, hB1, hsz1⟩
      case round =>
        rename World => w2
        obtain ⟨y, hyn, rfl, ho, hb2, hs2⟩ := hrel
        have hBw : Below G0 w w2 := hB.trans (hb2.mono hGg)
        by_cases hlt2 : y < n
        · have T2 := HM.out.under (hG.symm ▸ hBw)
          have rx := T2.row_cell hlt (Nat.le_refl _)
          have ry := T2.row_cell hlt2 (Nat.le_refl _)
          have cxy := T2.cell hlt hlt2
          have cyx := T2.cell hlt2 hlt
          obtain ⟨gx, hgx⟩ : ∃ gx, G x = gx := ⟨_, rfl⟩
          obtain ⟨cx, hcx⟩ : ∃ cx, C x = cx := ⟨_, rfl⟩
          obtain ⟨gy, hgy⟩ : ∃ gy, G y = gy := ⟨_, rfl⟩
          obtain ⟨cy, hcy⟩ : ∃ cy, C y = cy := ⟨_, rfl⟩
          obtain ⟨p, hp⟩ : ∃ p, M x y = p := ⟨_, rfl⟩
          obtain ⟨q, hq⟩ : ∃ q, M y x = q := ⟨_, rfl⟩
          rw [hgx] at rx cxy
          rw [hgy] at ry cyx
          rw [hcx] at rx
          rw [hcy] at ry
          simp only [hp] at cxy
          simp only [hq] at cyx
          have HPQ := Lib.hid (And.intro hp hq)
          clear T2 hgx hgy hcx hcy hp hq
          have hxi : (x : Int) < (n : Int) := by omega
          have hyi : (y : Int) < (n : Int) := by omega
          by_cases hgt : q < p
          · have hd1 : decide (q < p) = true := decide_eq_true hgt
            have hst := ho.out.stored y (.int .i64 p)
            rw [← HPQ.out.1, stepsRow_some (by rw [HPQ.out.1, HPQ.out.2]; exact hgt), HPQ.out.1] at hst
            have O6 := Lib.hid hst.1
            have k3 : w2.frozen? ⟨gr, y, none⟩ = false := ho.out.frozenAt y
            have k4 : (w2.cell? ⟨gr, y, none⟩) = some (.int .i64 (stepsTo M x y y)) := by rw [ho.out.cellAt y (by omega), range_cell _ hlt2]
            obtain ⟨z, hz⟩ : ∃ z, stepsTo M x y y = z := ⟨_, rfl⟩
            rw [hz] at k4
            have B7 : Hid (∀ q, Below gr wx ((w2.setCell ⟨gr, y, none⟩ (.int .i64 p)).drewN q)) := fun q => ((hb2.setCell (p := ⟨gr, y, none⟩) (Nat.le_refl _) _).trans (below_drewN _ _ q))
            clear hst ho hz
            go_wp2_with fail
            go_quiet (fail)
            go_wp2
            go_roundw
            case rel => exact ⟨y + 1, by omega, by go_num, O6, B7.out _, by simpa [World.setCell] using hs2⟩
            case measure => simp [intOf]; omega
          · have hd1 : decide (q < p) = false := decide_eq_false hgt
            have O6 : Hid (w2.ownsRow G0 3 1 (.slice (some ⟨gr, 0, none⟩) n n) n ((List.range n).map (fun j => Value.int .i64 (stepsTo M x (y + 1) j)))) := by
              unfold Hid; rw [← stepsRow_none (by rw [HPQ.out.1, HPQ.out.2]; omega)]; exact ho.out
            clear ho
            go_wp2_with fail
            go_quiet (fail)
            go_wp2
            go_roundw
            case rel => exact ⟨y + 1, by omega, by go_num, O6, hb2.trans (below_drewN _ _ _), hs2⟩
            case measure => simp [intOf]; omega
        · obtain rfl : y = n := by omega
          have hrow : Hid (w2.ownsRow G0 3 1 (.slice (some ⟨gr, 0, none⟩) y y) y ((List.range y).map (fun j => Value.int .i64 (steps M x j)))) := by
            unfold Hid; rw [← stepsRow_end]; exact ho.out
          obtain ⟨G', C', hT'⟩ := hTT.out
          have HT2 := Lib.hid (hT'.under (HGR.out.symm ▸ hb2))
          have hlast : ∀ j, j < x → G' j < gr := fun j hj => by have := (hT'.lt hj).2; rw [HGR.out] at this; exact this
          obtain ⟨V, hV1, hV2⟩ := HT2.out.outer
          have HV1 := Lib.hid hV1
          have HV2 := Lib.hid hV2
          clear hTT hT' ho hV1 hV2
          go_wp2_with (at_builtin; refine wpList_append_own _ rfl _ _ 26 rfl G0 30 i1 (.slice none 0 0) 1 24 Try.underlying26 hi1 hy0 hy1 hy2 rfl (by decide) _ _ _ rfl (HV1.out.alloc _) ⟨w2.heap.size, 0, none⟩ 1 1 [.slice (some ⟨gr, 0, none⟩) y y] rfl rfl (cell_one_new _ _ _) (by simp [Value.oneCell']) (by unfold maxLen; omega) (by omega) (by have := hBw.size; simp; omega) ?_; intro v' w4 hown' hgrow _; obtain ⟨a4, cap4, rfl⟩ := owns_slice hown')
          have hrowb : ∀ j, (Value.slice ao x co).ownBlock = some j → G0 ≤ j := fun j ej => (HV1.out.lt j ej).1
          have hB4 : Below G0 w w4 := (hBw.alloc (by have := hBw.size; omega) (.cells #[.slice (some ⟨gr, 0, none⟩) y y] 30)).grown hgrow (by have := hBw.size; simp; omega) (fun j e => hrowb j e)
          have HT4 := Lib.hid (Tb.push (w' := w4) (f := fun j => Value.int .i64 (steps M x j)) (c2 := y) (by decide) (HT2.out.under ((Below.refl _ w2).alloc (Nat.le_refl _) _)) (HV1.out.alloc _) HV2.out (hrow.out.alloc _) hlast hown' hgrow)
          have HT5 : Hid (∃ G C, Tb 3 30 w4 G0 a4 (x + 1) cap4 (x + 1) y G C (fun x y => .int .i64 (steps M x y))) :=
            ⟨_, _, HT4.out.congr (fun i j hi hj => by
              by_cases e : i = x
              · subst e; simp
              · simp [e])⟩
          clear hown' hgrow hrowb HT4 HV1 HV2 HT2 hrow
          go_wp2
          go_roundw
          case rel => exact ⟨x + 1, a4, cap4, by omega, by go_num, rfl, HT5, hB4⟩
          case measure => simp [intOf]; omega
    · obtain rfl : x = n := by omega
      obtain ⟨G', C', hT'⟩ := hTT.out
      obtain ⟨go, rfl, hgo, hgl, -⟩ := hT'.head (by omega)
      have HT := Lib.hid hT'
      clear hTT hT' hgo hgl
      go_wp2
      go_loopw [7, 8, 9] (fun kv _ _ wr => ∃ k : Nat, k ≤ x ∧ kv = .int .i64 (k : Int) ∧ Hid (Tb 3 30 wr G0 (some ⟨go, 0, none⟩) x co x x G' C' (fun i j => .int .i64 (pathTo M k i j))) ∧ Below G0 w wr) (fun kv _ _ _ => x - (intOf kv).toNat)
      case atStart => exact ⟨0, Nat.zero_le _, rfl, HT, hB⟩
      case round =>
        clear HT hB hGs
        obtain ⟨k, hk, rfl, hT1, hB⟩ := hrel
        by_cases hlt : k < x
        · obtain ⟨P, hP⟩ : ∃ P, pathTo M k = P := ⟨_, rfl⟩
          have HP : Hid (pathTo M (k + 1) = stageI P k) := by unfold Hid; rw [pathTo_succ, hP]
          rw [hP] at hT1
          have HT1 : Hid (Tb 3 30 wr G0 (some ⟨go, 0, none⟩) x co x x G' C' (fun i j => .int .i64 (curI P k 0 0 i j))) := hT1.out.congr (fun i j _ _ => by rw [curI_start])
          clear hP hT1
          go_wp2
          go_loopw [8, 9] (fun av _ wr => ∃ a : Nat, a ≤ x ∧ av = .int .i64 (a : Int) ∧ Hid (Tb 3 30 wr G0 (some ⟨go, 0, none⟩) x co x x G' C' (fun i j => .int .i64 (curI P k a 0 i j))) ∧ Below G0 w wr) (fun av _ _ => x - (intOf av).toNat)
          case atStart => exact ⟨0, Nat.zero_le _, rfl, HT1, hB⟩
          case round =>
            clear HT1 hB
            obtain ⟨a, ha, rfl, hT2, hB⟩ := hrel
            by_cases hlta : a < x
            · go_wp2
              go_loopw [9] (fun bv wr => ∃ b : Nat, b ≤ x ∧ bv = .int .i64 (b : Int) ∧ Hid (Tb 3 30 wr G0 (some ⟨go, 0, none⟩) x co x x G' C' (fun i j => .int .i64 (curI P k a b i j))) ∧ Below G0 w wr) (fun bv _ => x - (intOf bv).toNat)
              case atStart => exact ⟨0, Nat.zero_le _, rfl, hT2, hB⟩
              case round =>
                clear hT2 hB
                rename World => w5
                obtain ⟨b, hb, rfl, hT3, hB⟩ := hrel
                by_cases hltb : b < x
                · by_cases hab : a = b
                  · subst hab
                    have hne : ((a : Int) != (a : Int)) = false := by simp
                    have T6 : Hid (Tb 3 30 w5 G0 (some ⟨go, 0, none⟩) x co x x G' C' (fun i j => .int .i64 (curI P k a (a + 1) i j))) :=
                      hT3.out.congr (fun i j _ _ => by rw [curI_same (stageI_diag P k a).symm])
                    go_wp2
                    go_roundw
                    case rel => exact ⟨a + 1, by omega, by go_num, T6, hB⟩
                    case measure => simp [intOf]; omega
                  · have hne : ((a : Int) != (b : Int)) = true := bne_iff_ne.2 (by omega)
                    have ra := hT3.out.row_cell hlta (Nat.le_refl _)
                    have rk := hT3.out.row_cell hlt (Nat.le_refl _)
                    have cab := hT3.out.cell hlta hltb
                    have cak := hT3.out.cell hlta hlt
                    have ckb := hT3.out.cell hlt hltb
                    have fab := hT3.out.frozen hlta b
                    simp only [curI_at] at cab
                    simp only [curI_col] at cak
                    simp only [curI_row] at ckb
                    obtain ⟨p, hp⟩ : ∃ p, P a b = p := ⟨_, rfl⟩
                    obtain ⟨q, hq⟩ : ∃ q, P a k = q := ⟨_, rfl⟩
                    obtain ⟨r, hr⟩ : ∃ r, P k b = r := ⟨_, rfl⟩
                    have hst : stageI P k a b = max p (min q r) := by rw [stageI_ne P k hab, hp, hq, hr]
                    rw [hp] at cab
                    rw [hq] at cak
                    rw [hr] at ckb
                    have hset := hT3.out.set (by decide) hlta hltb (.int .i64 (max p (min q r)))
                    have T6 : Hid (Tb 3 30 (w5.setCell ⟨G' a, b, none⟩ (.int .i64 (max p (min q r)))) G0 (some ⟨go, 0, none⟩) x co x x G' C' (fun i j => .int .i64 (curI P k a (b + 1) i j))) :=
                      hset.1.congr (fun i j _ _ => by
                        rw [← curI_step (i := i) (j := j) hst.symm]
                        split <;> rfl)
                    have B6 : Below G0 w (w5.setCell ⟨G' a, b, none⟩ (.int .i64 (max p (min q r)))) := hB.setCell (p := ⟨G' a, b, none⟩) (hT3.out.lt hlta).1 _
                    obtain ⟨ga, hga⟩ : ∃ ga, G' a = ga := ⟨_, rfl⟩
                    obtain ⟨ca, hca⟩ : ∃ ca, C' a = ca := ⟨_, rfl⟩
                    obtain ⟨gk, hgk⟩ : ∃ gk, G' k = gk := ⟨_, rfl⟩
                    obtain ⟨ck, hck⟩ : ∃ ck, C' k = ck := ⟨_, rfl⟩
                    rw [hga] at ra cab cak fab T6 B6
                    rw [hca] at ra
                    rw [hgk] at rk ckb
                    rw [hck] at rk
                    have hai : (a : Int) < (x : Int) := by omega
                    have hbi : (b : Int) < (x : Int) := by omega
                    have hki : (k : Int) < (x : Int) := by omega
                    have T7 : Hid (Tb 3 30 (w5.drew.setCell ⟨ga, b, none⟩ (.int .i64 (max p (min q r)))) G0 (some ⟨go, 0, none⟩) x co x x G' C' (fun i j => .int .i64 (curI P k a (b + 1) i j))) := T6.out.under (Below.refl _ _).drew
                    have B7 : Below G0 w (w5.drew.setCell ⟨ga, b, none⟩ (.int .i64 (max p (min q r)))) := B6.drew
                    have cabd : w5.drew.cell? ⟨ga, b, none⟩ = some (.int .i64 p) := cab
                    have fabd : w5.drew.frozen? ⟨ga, b, none⟩ = false := fab
                    clear hset hst hp hq hr hga hca hgk hck hT3 T6 B6 fab
                    go_wp2_with fail
                    refine region_quiet_tail 29 (by kernel_rfl) (by kernel_rfl) ?_
                    simp only [List.take_succ_cons, List.take_zero, List.drop_succ_cons, List.drop_zero]
                    repeat (go_big_quiet_step (fail))
                    refine wpQuiet_nil ?_
                    generalize w5.drew = w6 at T7 B7 cabd fabd ⊢
                    go_wp2
                    go_roundw
                    case rel => exact ⟨b + 1, by omega, by go_num, T7, B7⟩
                    case measure => simp [intOf]; omega
                · obtain rfl : b = x := by omega
                  have T6 : Hid (Tb 3 30 w5 G0 (some ⟨go, 0, none⟩) b co b b G' C' (fun i j => .int .i64 (curI P k (a + 1) 0 i j))) :=
                    hT3.out.congr (fun i j _ hj => by rw [curI_next hj])
                  go_wp2
                  go_roundw
                  case rel => exact ⟨a + 1, by omega, by go_num, T6, hB⟩
                  case measure => simp [intOf]; omega
            · obtain rfl : a = x := by omega
              have T6 : Hid (Tb 3 30 wr G0 (some ⟨go, 0, none⟩) a co a a G' C' (fun i j => .int .i64 (pathTo M (k + 1) i j))) :=
                hT2.out.congr (fun i j hi _ => by rw [curI_end hi, HP.out])
              go_wp2
              go_roundw
              case rel => exact ⟨k + 1, by omega, by go_num, T6, hB⟩
              case measure => simp [intOf]; omega
        · obtain rfl : k = x := by omega
          go_wp2
          go_ret
          exact ⟨_, co, G', C', rfl, hG.symm ▸ hT1.out, hG.symm ▸ hB⟩

end Go.Proofs.Ytaaamidkfhabnaa
