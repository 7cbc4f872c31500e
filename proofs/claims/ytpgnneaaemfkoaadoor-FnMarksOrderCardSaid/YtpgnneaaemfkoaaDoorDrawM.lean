/-
  The drawn marks (l91Marks): a new slice of as many ints as asked for, and a reader that has gone on. No condition but what each theorem says.
-/
import Derived.Test.YtpgnneaaemfkoaaDoorDrawB
import Derived.Test.YtpgnneaaemfkoaaDoorMarksOf
namespace Go.Proofs.YtpgnneaaemfkoaaDoor
open Go.RowKit

theorem Step.under {R : Nat} {a b c : World} (h : Step R a b) (hb : Below b.heap.size b c) : Step R a c :=
  h.grown (row := none) ⟨hb.os, hb.tape, hb.output, hb.size, fun k hk _ => hb.block k hk⟩ (fun k e => by cases e)
theorem size_sum (n k : Nat) (h : k = n) : (k : Int) = (n : Int) := by rw [h]

/-- One of three. -/
def p9 (d : Nat) : Int := if d = 0 then -1 else if d = 1 then 9 else 10
theorem p9_cell (w : World) (t : TypeId) (d : Nat) (h : d < 3) : (w.alloc (.cells #[.int .i64 (-1), .int .i64 9, .int .i64 10] t)).cell? ⟨w.heap.size, d, none⟩ = some (.int .i64 (p9 d)) := by
  refine (World.cell?_alloc_mark w _ t (0, 0) d).trans ?_
  have e : d = 0 ∨ d = 1 ∨ d = 2 := by omega
  rcases e with rfl | rfl | rfl <;> simp [p9]

/-- Marks that were drawn: in memory of the call's own; the reader has gone on. -/
def DrawnMarks (R p n : Nat) (w : World) (e : Ending) (w' : World) : Prop := ∃ (zs : List Int) (a : Option Addr) (cap p' : Nat), e = .returned (.slice a n cap) ∧ w'.ownsRow w.heap.size 3 1 (.slice a n cap) n (zs.map (Value.int .i64)) ∧ zs.length = n ∧ Rd w' R p' ∧ p' ≤ p + 60 ∧ Step R w w'

set_option maxHeartbeats 4000000 in
/-- **l91Marks**. -/
theorem l91Marks_any (R p n : Nat) (w : World) (h : Rd w R p) (hp : p + 100 ≤ 1000000) (hn : n ≤ 7) :
    Calls Tryd.prog 30 #[.pointer (some ⟨R, 0, none⟩), .int .i64 (n : Int)] w (DrawnMarks R p n w) := by
  obtain ⟨i0, hi, hz0, hz1, hz2⟩ := info_parts int_info
  have hRw := h.1
  have HO0 := Lib.hid (World.ownsRow_lit (base := w.heap.size) (e := 3) (size := 1) w #[] 0 (Nat.le_refl _) (by unfold maxLen; omega) rfl)
  have H0 : Hid (Rd (w.alloc (.cells #[] 3)) R p) := h.below ((Below.refl _ w).alloc (Nat.le_refl _) _)
  have S0 : Hid (Step R w (w.alloc (.cells #[] 3))) := (Step.refl R w).alloc _
  clear h
  go_enter Tryd.func30, Tryd.ntmps30
  go_wp2
  go_loopw [5, 6] (fun o i wr => ∃ (k : Nat) (zs : List Int) (a : Option Addr) (cap p' : Nat), k ≤ n ∧ i = .int .i64 k ∧ o = .slice a k cap ∧ Hid (wr.ownsRow w.heap.size 3 1 (.slice a k cap) k (zs.map (Value.int .i64))) ∧ Hid (zs.length = k) ∧ Hid (Rd wr R p') ∧ p' ≤ p + k ∧ Hid (Step R w wr)) (fun _ i _ => n - (intOf i).toNat)
  case atStart => exact ⟨0, [], _, _, p, by omega, rfl, rfl, HO0, rfl, H0, by omega, S0⟩
  case round =>
    obtain ⟨k, zs, a, cap, p', hkn, rfl, rfl, ho, hzk, hr, hp', hs⟩ := hrel
    by_cases hlt : k < n
    · go_wp2_with fail
      refine (pick_any R p' ((n : Int) + 2) _ hr.out (by omega) (by omega) (by omega)).mono ?_
      rintro e w2 ⟨c, rfl, hc, hr2, hs2⟩
      have R2 := Lib.hid hr2
      have O2 := Lib.hid (owns_step ho.out hs2 hRw)
      have S2 := Lib.hid (hs.out.trans hs2)
      clear hr ho hs hr2 hs2
      go_wp2_with (at_builtin; refine wpList_append_own _ rfl _ _ 23 rfl w.heap.size 3 i0 (.int .i64 0) 1 8 Tryd.underlying23 hi hz0 hz1 hz2 rfl (by decide) _ _ _ rfl (O2.out.alloc _) ⟨w2.heap.size, 0, none⟩ 1 1 [.int .i64 (c : Int)] rfl rfl (cell_one_new _ _ _) (by simp [Value.oneCell']) (by unfold maxLen; omega) (by omega) (by have := S2.out.size; simp; omega) ?_; intro v' w4 hown' hgrow _; obtain ⟨a4, cap4, rfl⟩ := owns_slice hown')
      have hrow : ∀ j, (Value.slice a k cap).ownBlock = some j → w.heap.size ≤ j := fun j ej => (O2.out.lt j ej).1
      have R4 : Hid (Rd w4 R (p' + 1)) := (R2.out.below ((Below.refl _ w2).alloc (Nat.le_refl _) _)).grown hgrow (fun j ej => by have := hrow j ej; omega)
      have S4 : Hid (Step R w w4) := (S2.out.alloc _).grown hgrow (fun j ej => .inl (hrow j ej))
      have HL : Hid ((zs ++ [(c : Int)]).length = k + 1) := by unfold Hid; simp [hzk.out]
      have O4 : Hid (w4.ownsRow w.heap.size 3 1 (.slice a4 (k + 1) cap4) (k + 1) ((zs ++ [(c : Int)]).map (Value.int .i64))) := by
        unfold Hid; rw [List.map_append]; exact hown'
      clear hown' hgrow hrow
      go_wp2
      go_roundw
      case rel => exact ⟨k + 1, zs ++ [(c : Int)], a4, cap4, p' + 1, by omega, by go_num, rfl, O4, HL, R4, by omega, S4⟩
      case measure => simp [intOf]; omega
    · obtain rfl : k = n := by omega
      go_wp2_with fail
      refine (pick_any R p' 3 _ hr.out (by omega) (by omega) (by omega)).mono ?_
      rintro e w2 ⟨c, rfl, hc, hr2, hs2⟩
      have R2 := Lib.hid hr2
      have O2 := Lib.hid (owns_step ho.out hs2 hRw)
      have S2 := Lib.hid (hs.out.trans hs2)
      clear hr ho hs hr2 hs2
      have hp2 : p' + 1 ≤ p + 9 := by omega
      obtain ⟨p2, hpe⟩ : ∃ p2, p' + 1 = p2 := ⟨_, rfl⟩
      rw [hpe] at hp2 R2
      clear hp' hpe
      cases hc0 : ((c : Int) == 0)
      · have HZ := hzk
        have R5 := R2
        have O5 := O2
        have S5 := S2
        have hp5 : p2 ≤ p + 40 := by omega
        clear R2 O2 S2 hzk hp2
        rcases Nat.eq_zero_or_pos k with hz | hz
        · have hz1 : (k : Int) ≤ 0 := by omega
          subst hz
          go_wp2
          go_ret
          exact ⟨zs, a, cap, p2, rfl, O5.out, HZ.out, R5.out, by omega, S5.out⟩
        · go_wp2_with fail
          refine (pick_any R p2 20 _ R5.out (by omega) (by omega) (by omega)).mono ?_
          rintro e w6 ⟨d, rfl, hd, hr6, hs6⟩
          have R6 := Lib.hid hr6
          have O6 := Lib.hid (owns_step O5.out hs6 hRw)
          have S6 := Lib.hid (S5.out.trans hs6)
          clear hr6 hs6 R5 O5 S5
          cases hd0 : ((d : Int) == 0)
          · go_wp2
            go_ret
            exact ⟨zs, a, cap, p2 + 1, rfl, O6.out, HZ.out, R6.out, by omega, S6.out⟩
          · go_wp2_with fail
            refine (pick_any R (p2 + 1) (k : Int) _ R6.out (by omega) (by omega) (by omega)).mono ?_
            rintro e w7 ⟨x, rfl, hx, hr7, hs7⟩
            have hxk : x < k := by omega
            obtain ⟨g, rfl, hg⟩ : ∃ g, a = some ⟨g, 0, none⟩ ∧ w.heap.size ≤ g := by
              rcases O6.out.2 with ⟨_, e0⟩ | ⟨g, c, _, e, hb, _⟩
              · omega
              · injection e with e1 _ _; exact ⟨g, e1, hb⟩
            have R7 := Lib.hid hr7
            have O7 := Lib.hid (owns_step O6.out hs7 hRw)
            have S7 := Lib.hid (S6.out.trans hs7)
            clear hr7 hs7 R6 O6 S6
            have R8 : Hid (Rd (w7.alloc (.cells #[.int .i64 (-1), .int .i64 9, .int .i64 10] 3)) R (p2 + 1 + 1)) := R7.out.below ((Below.refl _ w7).alloc (Nat.le_refl _) _)
            go_wp2_with fail
            refine (pick_any R (p2 + 1 + 1) 3 _ R8.out (by omega) (by omega) (by omega)).mono ?_
            rintro e w8 ⟨y, rfl, hy, hr8, hs8⟩
            have hC : w8.cell? ⟨w7.heap.size, y, none⟩ = some (.int .i64 (p9 y)) := (World.cell?_of_block (hs8.block w7.heap.size (by simp) (by have := S7.out.size; simp; omega))).trans (p9_cell w7 _ y (by omega))
            have O8 := Lib.hid (owns_step (O7.out.alloc (.cells #[.int .i64 (-1), .int .i64 9, .int .i64 10] 3)) hs8 hRw)
            have S8 := Lib.hid ((S7.out.alloc (.cells #[.int .i64 (-1), .int .i64 9, .int .i64 10] 3)).trans hs8)
            have R9 := Lib.hid hr8
            clear hr8 hs8 R7 R8 O7 S7
            have hcg : w8.cell? ⟨g, x, none⟩ = some (.int .i64 (zs[x]?.getD 0)) := by
              rw [O8.out.cellAt x (by omega)]
              simp [show x < zs.length from by rw [HZ.out]; exact hxk]
            have hfz := O8.out.frozenAt x
            have HST := Lib.hid (O8.out.stored x (.int .i64 (p9 y)))
            have R10 : Hid (Rd (w8.setCell ⟨g, x, none⟩ (.int .i64 (p9 y))) R (p2 + 1 + 1 + 1)) := R9.out.grown HST.out.2 (fun j e => by cases e; omega)
            have S10 : Hid (Step R w (w8.setCell ⟨g, x, none⟩ (.int .i64 (p9 y)))) := S8.out.grown HST.out.2 (fun j e => by cases e; exact .inl hg)
            go_wp2
            go_ret
            refine ⟨zs.set x (p9 y), some ⟨g, 0, none⟩, cap, p2 + 1 + 1 + 1, rfl, ?_, by rw [List.length_set]; exact HZ.out, R10.out, by omega, S10.out⟩
            rw [← map_set_int]; exact HST.out.1
      · go_wp2_with fail
        refine (l91Ballot_any R p2 (k : Int) _ R2.out (by omega) (by omega) (by omega)).mono ?_
        rintro e w3 ⟨b, a3, c3, p3, rfl, ho3, hb3, hr3, hp3, hs3⟩
        have I3 := Lib.hid (IsInts.of_owned ho3 (by omega))
        have R3 := Lib.hid hr3
        have O3 := Lib.hid (owns_step O2.out hs3 hRw)
        have S3 := Lib.hid (S2.out.trans hs3)
        clear R2 O2 S2 hr3 hs3 ho3
        obtain ⟨pl, hpl⟩ : ∃ pl, markOfL b (k : Int) = pl := ⟨_, rfl⟩
        have HPL := Lib.hid hpl
        go_wp2_with fail
        cases hok : validB b (k : Int)
        · have HOK := Lib.hid hok
          have hp0 : pl.length = 0 := by rw [← hpl, markOfL_no hok]; rfl
          clear hpl hok
          refine (specMarksOf_as _ _ _ b (k : Int) pl false _ I3.out HPL.out HOK.out).mono ?_
          rintro e w4 ⟨a4, c4, rfl, ho4, hb4⟩
          have HZ := hzk
          have R5 : Hid (Rd w4 R p3) := R3.out.below hb4
          have O5 := Lib.hid (owns_under O3.out hb4)
          have S5 : Hid (Step R w w4) := S3.out.under hb4
          have hp5 : p3 ≤ p + 40 := by omega
          clear R3 O3 S3 ho4 hb4 I3 HPL HOK hzk hp3 hp2 hp0
          rcases Nat.eq_zero_or_pos k with hz | hz
          · have hz1 : (k : Int) ≤ 0 := by omega
            subst hz
            go_wp2
            go_ret
            exact ⟨zs, a, cap, p3, rfl, O5.out, HZ.out, R5.out, by omega, S5.out⟩
          · go_wp2_with fail
            refine (pick_any R p3 20 _ R5.out (by omega) (by omega) (by omega)).mono ?_
            rintro e w6 ⟨d, rfl, hd, hr6, hs6⟩
            have R6 := Lib.hid hr6
            have O6 := Lib.hid (owns_step O5.out hs6 hRw)
            have S6 := Lib.hid (S5.out.trans hs6)
            clear hr6 hs6 R5 O5 S5
            cases hd0 : ((d : Int) == 0)
            · go_wp2
              go_ret
              exact ⟨zs, a, cap, p3 + 1, rfl, O6.out, HZ.out, R6.out, by omega, S6.out⟩
            · go_wp2_with fail
              refine (pick_any R (p3 + 1) (k : Int) _ R6.out (by omega) (by omega) (by omega)).mono ?_
              rintro e w7 ⟨x, rfl, hx, hr7, hs7⟩
              have hxk : x < k := by omega
              obtain ⟨g, rfl, hg⟩ : ∃ g, a = some ⟨g, 0, none⟩ ∧ w.heap.size ≤ g := by
                rcases O6.out.2 with ⟨_, e0⟩ | ⟨g, c, _, e, hb, _⟩
                · omega
                · injection e with e1 _ _; exact ⟨g, e1, hb⟩
              have R7 := Lib.hid hr7
              have O7 := Lib.hid (owns_step O6.out hs7 hRw)
              have S7 := Lib.hid (S6.out.trans hs7)
              clear hr7 hs7 R6 O6 S6
              have R8 : Hid (Rd (w7.alloc (.cells #[.int .i64 (-1), .int .i64 9, .int .i64 10] 3)) R (p3 + 1 + 1)) := R7.out.below ((Below.refl _ w7).alloc (Nat.le_refl _) _)
              go_wp2_with fail
              refine (pick_any R (p3 + 1 + 1) 3 _ R8.out (by omega) (by omega) (by omega)).mono ?_
              rintro e w8 ⟨y, rfl, hy, hr8, hs8⟩
              have hC : w8.cell? ⟨w7.heap.size, y, none⟩ = some (.int .i64 (p9 y)) := (World.cell?_of_block (hs8.block w7.heap.size (by simp) (by have := S7.out.size; simp; omega))).trans (p9_cell w7 _ y (by omega))
              have O8 := Lib.hid (owns_step (O7.out.alloc (.cells #[.int .i64 (-1), .int .i64 9, .int .i64 10] 3)) hs8 hRw)
              have S8 := Lib.hid ((S7.out.alloc (.cells #[.int .i64 (-1), .int .i64 9, .int .i64 10] 3)).trans hs8)
              have R9 := Lib.hid hr8
              clear hr8 hs8 R7 R8 O7 S7
              have hcg : w8.cell? ⟨g, x, none⟩ = some (.int .i64 (zs[x]?.getD 0)) := by
                rw [O8.out.cellAt x (by omega)]
                simp [show x < zs.length from by rw [HZ.out]; exact hxk]
              have hfz := O8.out.frozenAt x
              have HST := Lib.hid (O8.out.stored x (.int .i64 (p9 y)))
              have R10 : Hid (Rd (w8.setCell ⟨g, x, none⟩ (.int .i64 (p9 y))) R (p3 + 1 + 1 + 1)) := R9.out.grown HST.out.2 (fun j e => by cases e; omega)
              have S10 : Hid (Step R w (w8.setCell ⟨g, x, none⟩ (.int .i64 (p9 y)))) := S8.out.grown HST.out.2 (fun j e => by cases e; exact .inl hg)
              go_wp2
              go_ret
              refine ⟨zs.set x (p9 y), some ⟨g, 0, none⟩, cap, p3 + 1 + 1 + 1, rfl, ?_, by rw [List.length_set]; exact HZ.out, R10.out, by omega, S10.out⟩
              rw [← map_set_int]; exact HST.out.1
        · have hpn : pl.length = k := by rw [← hpl, markOfL_yes hok, ofL_length, Int.toNat_natCast]
          have HOK := Lib.hid hok
          clear hpl hok
          refine (specMarksOf_as _ _ _ b (k : Int) pl true _ I3.out HPL.out HOK.out).mono ?_
          rintro e w4 ⟨a4, c4, rfl, ho4, hb4⟩
          rw [hpn] at ho4 ⊢
          have HZ := Lib.hid hpn
          have R5 : Hid (Rd w4 R p3) := R3.out.below hb4
          have O5 : Hid (w4.ownsRow w.heap.size 3 1 (.slice a4 k c4) k (pl.map (Value.int .i64))) := World.ownsRow.mono ho4 S3.out.size
          have S5 : Hid (Step R w w4) := S3.out.under hb4
          have hp5 : p3 ≤ p + 40 := by omega
          clear R3 O3 S3 ho4 hb4 hpn I3 HPL HOK hzk hp3 hp2
          rcases Nat.eq_zero_or_pos k with hz | hz
          · have hz1 : (k : Int) ≤ 0 := by omega
            subst hz
            go_wp2
            go_ret
            exact ⟨pl, a4, c4, p3, rfl, O5.out, HZ.out, R5.out, by omega, S5.out⟩
          · go_wp2_with fail
            refine (pick_any R p3 20 _ R5.out (by omega) (by omega) (by omega)).mono ?_
            rintro e w6 ⟨d, rfl, hd, hr6, hs6⟩
            have R6 := Lib.hid hr6
            have O6 := Lib.hid (owns_step O5.out hs6 hRw)
            have S6 := Lib.hid (S5.out.trans hs6)
            clear hr6 hs6 R5 O5 S5
            cases hd0 : ((d : Int) == 0)
            · go_wp2
              go_ret
              exact ⟨pl, a4, c4, p3 + 1, rfl, O6.out, HZ.out, R6.out, by omega, S6.out⟩
            · go_wp2_with fail
              refine (pick_any R (p3 + 1) (k : Int) _ R6.out (by omega) (by omega) (by omega)).mono ?_
              rintro e w7 ⟨x, rfl, hx, hr7, hs7⟩
              have hxk : x < k := by omega
              obtain ⟨g, rfl, hg⟩ : ∃ g, a4 = some ⟨g, 0, none⟩ ∧ w.heap.size ≤ g := by
                rcases O6.out.2 with ⟨_, e0⟩ | ⟨g, c, _, e, hb, _⟩
                · omega
                · injection e with e1 _ _; exact ⟨g, e1, hb⟩
              have R7 := Lib.hid hr7
              have O7 := Lib.hid (owns_step O6.out hs7 hRw)
              have S7 := Lib.hid (S6.out.trans hs7)
              clear hr7 hs7 R6 O6 S6
              have R8 : Hid (Rd (w7.alloc (.cells #[.int .i64 (-1), .int .i64 9, .int .i64 10] 3)) R (p3 + 1 + 1)) := R7.out.below ((Below.refl _ w7).alloc (Nat.le_refl _) _)
              go_wp2_with fail
              refine (pick_any R (p3 + 1 + 1) 3 _ R8.out (by omega) (by omega) (by omega)).mono ?_
              rintro e w8 ⟨y, rfl, hy, hr8, hs8⟩
              have hC : w8.cell? ⟨w7.heap.size, y, none⟩ = some (.int .i64 (p9 y)) := (World.cell?_of_block (hs8.block w7.heap.size (by simp) (by have := S7.out.size; simp; omega))).trans (p9_cell w7 _ y (by omega))
              have O8 := Lib.hid (owns_step (O7.out.alloc (.cells #[.int .i64 (-1), .int .i64 9, .int .i64 10] 3)) hs8 hRw)
              have S8 := Lib.hid ((S7.out.alloc (.cells #[.int .i64 (-1), .int .i64 9, .int .i64 10] 3)).trans hs8)
              have R9 := Lib.hid hr8
              clear hr8 hs8 R7 R8 O7 S7
              have hcg : w8.cell? ⟨g, x, none⟩ = some (.int .i64 (pl[x]?.getD 0)) := by
                rw [O8.out.cellAt x (by omega)]
                simp [show x < pl.length from by rw [HZ.out]; exact hxk]
              have hfz := O8.out.frozenAt x
              have HST := Lib.hid (O8.out.stored x (.int .i64 (p9 y)))
              have R10 : Hid (Rd (w8.setCell ⟨g, x, none⟩ (.int .i64 (p9 y))) R (p3 + 1 + 1 + 1)) := R9.out.grown HST.out.2 (fun j e => by cases e; omega)
              have S10 : Hid (Step R w (w8.setCell ⟨g, x, none⟩ (.int .i64 (p9 y)))) := S8.out.grown HST.out.2 (fun j e => by cases e; exact .inl hg)
              go_wp2
              go_ret
              refine ⟨pl.set x (p9 y), some ⟨g, 0, none⟩, c4, p3 + 1 + 1 + 1, rfl, ?_, by rw [List.length_set]; exact HZ.out, R10.out, by omega, S10.out⟩
              rw [← map_set_int]; exact HST.out.1

end Go.Proofs.YtpgnneaaemfkoaaDoor
