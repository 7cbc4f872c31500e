/-
  spec.l13Counts: the table of preferences of piles that fit, in memory of the call's own.
-/
import Derived.Test.YtaaamidkfhabnaaGrp10
namespace Go.Proofs.Ytaaamidkfhabnaa
open Go.RowKit

attribute [local go_sem] Oper.semAt_some

set_option maxRecDepth 100000 in
set_option maxHeartbeats 4000000 in
/-- **l13Counts**. -/
theorem l13Counts_any (a : Option Addr) (len cap : Nat) (ps : List Pl) (n : Nat) (w : World) (h : IsPiles w a len cap ps) (hs : Small ps) (hp : pilesB ps = true) (hn1 : 1 ≤ n) (hn : n ≤ 5) :
    Calls Try.prog 49 #[.slice a len cap, .int .i64 (n : Int)] w fun e w' => ∃ a' cap' G C, e = .returned (.slice a' n cap') ∧ Tb 3 30 w' w.heap.size a' n cap' n n G C (fun x y => .int .i64 (pairF ps x y)) ∧ Below w.heap.size w w' := by
  obtain ⟨i0, hi, hz0, hz1, hz2⟩ := info_parts int_info
  obtain ⟨i1, hi1, hy0, hy1, hy2⟩ := info_parts slice_info
  have HI := Lib.hid h
  have HS := Lib.hid hs
  have HP := Lib.hid hp
  have H1 := Lib.hid h.1
  have hl12 : len ≤ 12 := by have := (pilesB_pos hp).2.2.2.2; rw [h.1] at this; exact this
  clear h hs hp
  obtain ⟨G0, hG⟩ : ∃ G, w.heap.size = G := ⟨_, rfl⟩
  have HE0 : Hid ((w.alloc (.cells #[] 30)).ownsRow G0 30 1 (.slice (some ⟨w.heap.size, 0, none⟩) 0 0) 0 []) := World.ownsRow_lit (base := G0) (e := 30) (size := 1) w #[] 0 (by omega) (by unfold maxLen; omega) rfl
  have HB0 : Below G0 w (w.alloc (.cells #[] 30)) := (Below.refl G0 w).alloc (by omega) _
  go_enter Try.func49, Try.ntmps49
  go_wp2
  go_loopw [5, 6, 7, 8, 9, 10, 11] (fun rv xv _ _ _ _ _ wr => ∃ (x : Nat) (a : Option Addr) (cap : Nat), x ≤ n ∧ xv = .int .i64 (x : Int) ∧ rv = .slice a x cap ∧ Hid (∃ G C, Tb 3 30 wr G0 a x cap x n G C (fun x y => .int .i64 (pairF ps x y))) ∧ Below G0 w wr) (fun _ xv _ _ _ _ _ _ => n - (intOf xv).toNat)
  case atStart => exact ⟨0, _, _, Nat.zero_le _, rfl, rfl, ⟨fun _ => 0, fun _ => 0, Tb.start (by have := HE0.out; rwa [hG] at this)⟩, HB0⟩
  case round =>
    clear HE0 HB0
    rename World => wx
    obtain ⟨x, ao, co, hx, rfl, rfl, hT, hB⟩ := hrel
    have hGs : G0 ≤ wx.heap.size := by have := hB.size; rw [hG] at this; exact this
    by_cases hlt : x < n
    · go_wp2_with (at_make; refine wpList_make_full _ rfl _ _ 30 rfl G0 3 i0 (.int .i64 0) 1 Try.underlying30 hi hz0 hz1 .i64 .i64 _ _ n rfl rfl rfl rfl (by rw [hz2]; omega) (by unfold maxLen; omega) hGs ?_; intro w1 hown hgrow)
      obtain ⟨gr, hgr⟩ : ∃ gr, wx.heap.size = gr := ⟨_, rfl⟩
      rw [hgr] at hown ⊢
      have hB1 : Below gr wx w1 := (Below.refl gr wx).grown hgrow (by omega) (fun k e => by cases e)
      have hsz1 : gr < w1.heap.size := (hown.lt gr rfl).2
      have HGR := Lib.hid hgr
      rw [zero_row n ps x] at hown
      have HO := Lib.hid hown
      have hGg : G0 ≤ gr := by omega
      clear hown hgrow hgr
      go_wp2
      go_loopw [8, 9, 10, 11] (fun iv _ _ _ wr => ∃ i : Nat, i ≤ len ∧ iv = .int .i64 (i : Int) ∧ Hid (wr.ownsRow G0 3 1 (.slice (some ⟨gr, 0, none⟩) n n) n ((List.range n).map (fun j => Value.int .i64 (pairF (ps.take i) x j)))) ∧ Below gr wx wr ∧ gr < wr.heap.size) (fun iv _ _ _ _ => len - (intOf iv).toNat)
      case atStart => exact ⟨0, Nat.zero_le _, rfl, HO, hB1, hsz1⟩
      case round =>
        rename World => w2
        obtain ⟨i, hil, rfl, ho, hb2, hs2⟩ := hrel
        have hBw : Below G0 w w2 := hB.trans (hb2.mono hGg)
        by_cases hlt2 : i < len
        · obtain ⟨b, off, rfl, hb, c0, c1⟩ := (HI.out.below (hG.symm ▸ hBw)).at_text hlt2
          obtain ⟨t, ht⟩ : ∃ t, tAt ps i = t := ⟨_, rfl⟩
          obtain ⟨m, hm⟩ : ∃ m, mAt ps i = m := ⟨_, rfl⟩
          obtain ⟨pl, hpl⟩ : ∃ pl, parseL t = pl := ⟨_, rfl⟩
          have hst : t.size ≤ 1048600 := by rw [← ht]; exact HS.out i
          have hl5 : pl.length ≤ 5 := by rw [← hpl]; exact parseL_short t
          have hm99 : 0 ≤ m ∧ m ≤ 99 := by rw [← hm]; exact mAt_valid HP.out i
          rw [ht] at c0
          rw [hm] at c1
          have HT0 := Lib.hid ht
          have HM0 := Lib.hid hm
          have HPL := Lib.hid hpl
          have hips : Hid (i < ps.length) := by unfold Hid; rw [H1.out]; exact hlt2
          clear ht hpl hm
          go_wp2_with fail
          refine (specParse_as t pl _ _ hst HPL.out rfl).mono ?_
          rintro e w3 ⟨a3, c3, rfl, ho3, hb3⟩
          obtain ⟨g2, hg2⟩ : ∃ g2, w2.heap.size = g2 := ⟨_, rfl⟩
          rw [hg2] at ho3
          have O3 : Hid (w3.ownsRow G0 3 1 (.slice (some ⟨gr, 0, none⟩) n n) n ((List.range n).map (rowF ps x i 0))) := by
            unfold Hid; rw [rowF_start]; exact owns_under ho.out hb3
          have OB := Lib.hid ho3
          have B3 : Below gr wx w3 := hb2.trans (hb3.mono (by omega))
          have S3 : gr < w3.heap.size := Nat.lt_of_lt_of_le hs2 hb3.size
          have hgg : gr < g2 := by omega
          clear ho3 hb3 ho hb2 c0
          go_wp2
          go_loopw [11] (fun yv wr => ∃ y : Nat, y ≤ n ∧ yv = .int .i64 (y : Int) ∧ Hid (wr.ownsRow G0 3 1 (.slice (some ⟨gr, 0, none⟩) n n) n ((List.range n).map (rowF ps x i y))) ∧ Hid (wr.ownsRow g2 3 1 (.slice a3 pl.length c3) pl.length (pl.map (Value.int .i64))) ∧ Below gr wx wr ∧ gr < wr.heap.size) (fun yv _ => n - (intOf yv).toNat)
          case atStart => exact ⟨0, Nat.zero_le _, rfl, O3, OB, B3, S3⟩
          case round =>
            clear O3 OB B3 S3
            rename World => w4
            obtain ⟨y, hyn, rfl, ho, hob, hb4, hs4⟩ := hrel
            by_cases hlt3 : y < n
            · obtain ⟨u, hu⟩ : ∃ u, prefB pl (x : Int) (y : Int) = u := ⟨_, rfl⟩
              obtain ⟨z, hz⟩ : ∃ z, pairF (ps.take i) x y = z := ⟨_, rfl⟩
              have hzb : 0 ≤ z ∧ z ≤ 1188 := by rw [← hz]; exact pairF_most HP.out i x y
              have HZ := Lib.hid hz
              have HU := Lib.hid hu
              clear hu hz
              go_wp2_with fail
              refine (specPrefers_any _ _ _ pl _ _ _ (IsInts.of_owned hob.out (by omega))).mono ?_
              rintro e w5 ⟨he, hd⟩
              rw [HU.out] at he
              subst he
              have O5 := Lib.hid (owns_under ho.out (hd.below _))
              have OB5 := Lib.hid (owns_under hob.out (hd.below _))
              have B5 : Below gr wx w5 := hb4.trans (hd.below _)
              have S5 : gr < w5.heap.size := Nat.lt_of_lt_of_le hs4 (hd.below 0).size
              clear ho hob hb4 hd
              have HPF : Hid (prefB (parseL (tAt ps i)) (x : Int) (y : Int) = u) := by unfold Hid; rw [HT0.out, HPL.out, HU.out]
              cases u
              · go_wp2
                go_roundw
                case rel => exact ⟨y + 1, by omega, by go_num, by unfold Hid; rw [← rowF_miss hips.out HPF.out]; exact O5.out, OB5, B5, S5⟩
                case measure => simp [intOf]; omega
              · have k1 : w5.cell? ⟨gr, y, none⟩ = some (.int .i64 z) := by rw [O5.out.cellAt y (by omega), range_cell _ hlt3, rowF_at, HZ.out]
                have k3 : w5.frozen? ⟨gr, y, none⟩ = false := O5.out.frozenAt y
                have k2 : w5.cell? ⟨b, off + i * 2 + 1, none⟩ = some (.int .i64 m) := by
                  obtain ⟨b', off', e, _, _, c1'⟩ := (HI.out.below (hG.symm ▸ hB.trans (B5.mono hGg))).at_text hlt2
                  injection e with e
                  injection e with e1 e2
                  subst e1
                  subst e2
                  rw [HM0.out] at c1'
                  exact c1'
                have hst5 := O5.out.stored y (.int .i64 (z + m))
                have hst6 : ((List.range n).map (rowF ps x i y)).set y (.int .i64 (z + m)) = (List.range n).map (rowF ps x i (y + 1)) := by
                  rw [← HZ.out, ← HM0.out]; exact rowF_hit hips.out HPF.out
                rw [hst6] at hst5
                have O6 := Lib.hid hst5.1
                have OB6 : Hid ((w5.setCell ⟨gr, y, none⟩ (.int .i64 (z + m))).ownsRow g2 3 1 (.slice a3 pl.length c3) pl.length (pl.map (Value.int .i64))) := by
                  refine OB5.out.kept hst5.2 ?_
                  cases hbl : (Value.slice a3 pl.length c3).ownBlock with
                  | none => exact .inl rfl
                  | some j => right; intro e; injection e with e; have := (OB5.out.lt j hbl).1; omega
                have B6 : Below gr wx (w5.setCell ⟨gr, y, none⟩ (.int .i64 (z + m))) := B5.setCell (Nat.le_refl _) _
                have S6 : gr < (w5.setCell ⟨gr, y, none⟩ (.int .i64 (z + m))).heap.size := by simpa [World.setCell] using S5
                clear hst5 hst6 O5 OB5 B5 S5
                go_wp2_with fail
                go_region
                go_wp2
                go_roundw
                case rel => exact ⟨y + 1, by omega, by go_num, O6, OB6, B6.drew, S6⟩
                case measure => simp [intOf]; omega
            · obtain rfl : y = n := by omega
              have O6 : Hid (w4.ownsRow G0 3 1 (.slice (some ⟨gr, 0, none⟩) y y) y ((List.range y).map (fun j => Value.int .i64 (pairF (ps.take (i + 1)) x j)))) := by
                unfold Hid; rw [← rowF_end]; exact ho.out
              go_wp2
              go_roundw
              case rel => exact ⟨i + 1, by omega, by go_num, O6, hb4, hs4⟩
              case measure => simp [intOf]; omega
        · obtain rfl : i = len := by omega
          have hrow : Hid (w2.ownsRow G0 3 1 (.slice (some ⟨gr, 0, none⟩) n n) n ((List.range n).map (fun j => Value.int .i64 (pairF ps x j)))) := by
            have := ho.out; rw [List.take_of_length_le (by rw [H1.out]; exact Nat.le_refl _)] at this; exact this
          obtain ⟨G, C, hT'⟩ := hT.out
          have HT2 := Lib.hid (hT'.under (HGR.out.symm ▸ hb2))
          have hlast : ∀ j, j < x → G j < gr := fun j hj => by have := (hT'.lt hj).2; rw [HGR.out] at this; exact this
          obtain ⟨V, hV1, hV2⟩ := HT2.out.outer
          have HV1 := Lib.hid hV1
          have HV2 := Lib.hid hV2
          clear hT hT' ho hV1 hV2
          go_wp2_with (at_builtin; refine wpList_append_own _ rfl _ _ 26 rfl G0 30 i1 (.slice none 0 0) 1 24 Try.underlying26 hi1 hy0 hy1 hy2 rfl (by decide) _ _ _ rfl (HV1.out.alloc _) ⟨w2.heap.size, 0, none⟩ 1 1 [.slice (some ⟨gr, 0, none⟩) n n] rfl rfl (cell_one_new _ _ _) (by simp [Value.oneCell']) (by unfold maxLen; omega) (by omega) (by have := hBw.size; simp; omega) ?_; intro v' w4 hown' hgrow _; obtain ⟨a4, cap4, rfl⟩ := owns_slice hown')
          have hrowb : ∀ j, (Value.slice ao x co).ownBlock = some j → G0 ≤ j := fun j ej => (HV1.out.lt j ej).1
          have hB4 : Below G0 w w4 := (hBw.alloc (by have := hBw.size; omega) (.cells #[.slice (some ⟨gr, 0, none⟩) n n] 30)).grown hgrow (by have := hBw.size; simp; omega) (fun j e => hrowb j e)
          have HT4 := Lib.hid (Tb.push (w' := w4) (f := fun j => Value.int .i64 (pairF ps x j)) (c2 := n) (by decide) (HT2.out.under ((Below.refl _ w2).alloc (Nat.le_refl _) _)) (HV1.out.alloc _) HV2.out (hrow.out.alloc _) hlast hown' hgrow)
          have HT5 : Hid (∃ G C, Tb 3 30 w4 G0 a4 (x + 1) cap4 (x + 1) n G C (fun x y => .int .i64 (pairF ps x y))) :=
            ⟨_, _, HT4.out.congr (fun i j hi hj => by
              by_cases e : i = x
              · subst e; simp
              · simp [e])⟩
          clear hown' hgrow hrowb HT4 HV1 HV2 HT2 hrow
          go_wp2
          go_roundw
          case rel => exact ⟨x + 1, a4, cap4, by omega, by go_num, rfl, HT5, hB4⟩
          case measure => simp [intOf]; omega
    · obtain rfl : x = n := by omega
      obtain ⟨G, C, hT'⟩ := hT.out
      have HT := Lib.hid hT'
      clear hT hT'
      go_wp2
      go_ret
      exact ⟨ao, co, G, C, rfl, hG.symm ▸ HT.out, hG.symm ▸ hB⟩

end Go.Proofs.Ytaaamidkfhabnaa
