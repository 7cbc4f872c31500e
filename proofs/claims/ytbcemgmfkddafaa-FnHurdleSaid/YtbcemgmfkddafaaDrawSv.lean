/-
  The drawn votes and seats of parties (l92Votes, l92Given, DrawSeatsDivisor, DrawSeatsNext, DrawSeatsCheck): lists in memory of the call's own, of any numbers.
-/
import Derived.Test.YtbcemgmfkddafaaGrp12
import Derived.Test.YtbcemgmfkddafaaGrp7
import Derived.Test.YtbcemgmfkddafaaGrp6
namespace Go.Proofs.Ytbcemgmfkddafaa
open Go.RowKit

theorem step_under2 {R : Nat} {a b c : World} (h : Step R a b) (hb : Below b.heap.size b c) : Step R a c :=
  h.grown (row := none) ⟨hb.os, hb.tape, hb.output, hb.size, fun k hk _ => hb.block k hk⟩ (fun k e => by cases e)
/-- One of three, one of four. -/
def v3c (d : Nat) : Int := if d = 0 then -1 else if d = 1 then 99 else 100
theorem v3c_cell (w : World) (t : TypeId) (d : Nat) (h : d < 3) : (w.alloc (.cells #[.int .i64 (-1), .int .i64 99, .int .i64 100] t)).cell? ⟨w.heap.size, d, none⟩ = some (.int .i64 (v3c d)) := by
  refine (World.cell?_alloc_mark w _ t (0, 0) d).trans ?_
  have e : d = 0 ∨ d = 1 ∨ d = 2 := by omega
  rcases e with rfl | rfl | rfl <;> simp [v3c]
def v4c (d : Nat) : Int := if d = 0 then 0 else if d = 1 then 10 else if d = 2 then 20 else 10
theorem v4c_cell (w : World) (t : TypeId) (d : Nat) (h : d < 4) : (w.alloc (.cells #[.int .i64 0, .int .i64 10, .int .i64 20, .int .i64 10] t)).cell? ⟨w.heap.size, d, none⟩ = some (.int .i64 (v4c d)) := by
  refine (World.cell?_alloc_mark w _ t (0, 0) d).trans ?_
  have e : d = 0 ∨ d = 1 ∨ d = 2 ∨ d = 3 := by omega
  rcases e with rfl | rfl | rfl | rfl <;> simp [v4c]
theorem owns_at {w : World} {base n cap : Nat} {a : Option Addr} {xs : List Value} (h : w.ownsRow base 3 1 (.slice a n cap) n xs) (hn : 0 < n) : ∃ g, a = some ⟨g, 0, none⟩ ∧ base ≤ g ∧ g < w.heap.size ∧ n ≤ cap := by
  rcases h.2 with ⟨_, e0⟩ | ⟨g, c, _, e, hb, hg, hc, _⟩
  · have := h.1; subst e0; simp at this; omega
  · injection e with e1 e2 e3
    subst e1
    subst e3
    exact ⟨g, rfl, hb, (h.lt g rfl).2, hc⟩

/-- Votes that were drawn: in memory of the call's own; the reader has gone on. -/
def DrawnV (R p n : Nat) (w : World) (e : Ending) (w' : World) : Prop := ∃ (zs : List Int) (a : Option Addr) (cap p' : Nat), e = .returned (.slice a n cap) ∧ w'.ownsRow w.heap.size 3 1 (.slice a n cap) n (zs.map (Value.int .i64)) ∧ zs.length = n ∧ Rd w' R p' ∧ p' ≤ p + 30 ∧ Step R w w'

set_option maxRecDepth 100000 in
set_option maxHeartbeats 8000000 in
/-- **l92Votes**. -/
theorem l92Votes_any (R p n : Nat) (w : World) (h : Rd w R p) (hp : p + 100 ≤ 1000000) (hn : n ≤ 5) :
    Calls Try.prog 55 #[.pointer (some ⟨R, 0, none⟩), .int .i64 (n : Int)] w (DrawnV R p n w) := by
  obtain ⟨i0, hi, hz0, hz1, hz2⟩ := info_parts int_info
  have hRw := h.1
  have HO0 := Lib.hid (World.ownsRow_lit (base := w.heap.size) (e := 3) (size := 1) w #[] 0 (Nat.le_refl _) (by unfold maxLen; omega) rfl)
  have H0 : Hid (Rd (w.alloc (.cells #[] 3)) R p) := h.below ((Below.refl _ w).alloc (Nat.le_refl _) _)
  have S0 : Hid (Step R w (w.alloc (.cells #[] 3))) := (Step.refl R w).alloc _
  clear h
  go_enter Try.func55, Try.ntmps55
  go_wp2
  go_loopw [5, 6] (fun o i wr => ∃ (k : Nat) (zs : List Int) (a : Option Addr) (cap p' : Nat), k ≤ n ∧ i = .int .i64 k ∧ o = .slice a k cap ∧ Hid (wr.ownsRow w.heap.size 3 1 (.slice a k cap) k (zs.map (Value.int .i64))) ∧ Hid (zs.length = k) ∧ Hid (Rd wr R p') ∧ p' ≤ p + k ∧ Hid (Step R w wr)) (fun _ i _ => n - (intOf i).toNat)
  case atStart => exact ⟨0, [], _, _, p, by omega, rfl, rfl, HO0, rfl, H0, by omega, S0⟩
  case round =>
    obtain ⟨k, zs, a, cap, p', hkn, rfl, rfl, ho, hzk, hr, hp', hs⟩ := hrel
    by_cases hlt : k < n
    · go_wp2_with fail
      refine (pick_any R p' 100 _ hr.out (by omega) (by omega) (by omega)).mono ?_
      rintro e w2 ⟨c, rfl, hc, hr2, hs2⟩
      have R2 := Lib.hid hr2
      have O2 := Lib.hid (owns_step ho.out hs2 hRw)
      have S2 := Lib.hid (hs.out.trans hs2)
      clear hr ho hs hr2 hs2
      go_wp2_with (at_builtin; refine wpList_append_own _ rfl _ _ 23 rfl w.heap.size 3 i0 (.int .i64 0) 1 8 Try.underlying23 hi hz0 hz1 hz2 rfl (by decide) _ _ _ rfl (O2.out.alloc _) ⟨w2.heap.size, 0, none⟩ 1 1 [.int .i64 (c : Int)] rfl rfl (cell_one_new _ _ _) (by simp [Value.oneCell']) (by unfold maxLen; omega) (by omega) (by have := S2.out.size; simp; omega) ?_; intro v' w4 hown' hgrow _; obtain ⟨a4, cap4, rfl⟩ := owns_slice hown')
      have hrow : ∀ j, (Value.slice a k cap).ownBlock = some j → w.heap.size ≤ j := fun j ej => (O2.out.lt j ej).1
      have R4 : Hid (Rd w4 R (p' + 1)) := (R2.out.below ((Below.refl _ w2).alloc (Nat.le_refl _) _)).grown hgrow (fun j ej => by have := hrow j ej; omega)
      have S4 : Hid (Step R w w4) := (S2.out.alloc _).grown hgrow (fun j ej => .inl (hrow j ej))
      have HL : Hid ((zs ++ [(c : Int)]).length = k + 1) := by unfold Hid; simp [hzk.out]
      have O4 : Hid (w4.ownsRow w.heap.size 3 1 (.slice a4 (k + 1) cap4) (k + 1) ((zs ++ [(c : Int)]).map (Value.int .i64))) := by
        unfold Hid; rw [List.map_append]; exact hown'
      clear hown' hgrow hrow
      go_wp2
      go_roundw
      case rel => exact ⟨k + 1, zs ++ [(c : Int)], a4, cap4, p' + 1, by omega, by go_num, rfl, O4, HL, R4, by omega, S4⟩
      case measure => simp [intOf]; omega
    · obtain rfl : k = n := by omega
      go_wp2_with fail
      refine (pick_any R p' 3 _ hr.out (by omega) (by omega) (by omega)).mono ?_
      rintro e w2 ⟨c, rfl, hc, hr2, hs2⟩
      have R2 := Lib.hid hr2
      have O2 := Lib.hid (owns_step ho.out hs2 hRw)
      have S2 := Lib.hid (hs.out.trans hs2)
      clear hr ho hs hr2 hs2 HO0 H0 S0
      obtain ⟨p2, hpe⟩ : ∃ p2, p' + 1 = p2 := ⟨_, rfl⟩
      have hp2 : p2 ≤ p + 6 := by omega
      rw [hpe] at R2
      clear hp' hpe
      cases hc0 : ((c : Int) == 0)
      · skip
        have R5 := R2
        have O5 := O2
        have S5 := S2
        have HZ := hzk
        have hp5 : p2 ≤ p + 15 := by omega
        clear R2 O2 S2 hzk
        rcases Nat.eq_zero_or_pos k with hz | hz
        · have hz1 : (k : Int) ≤ 0 := by omega
          subst hz
          go_wp2
          go_ret
          exact ⟨zs, a, cap, p2, rfl, O5.out, HZ.out, R5.out, by omega, S5.out⟩
        · go_wp2_with fail
          refine (pick_any R p2 24 _ R5.out (by omega) (by omega) (by omega)).mono ?_
          rintro e w6 ⟨d, rfl, hd, hr6, hs6⟩
          have R6 := Lib.hid hr6
          have O6 := Lib.hid (owns_step O5.out hs6 hRw)
          have S6 := Lib.hid (S5.out.trans hs6)
          clear hr6 hs6 R5 O5 S5
          cases hd0 : ((d : Int) == 0)
          · go_wp2
            go_ret
            exact ⟨zs, a, cap, p2 + 1, rfl, O6.out, HZ.out, R6.out, by omega, S6.out⟩
          · go_wp2_with fail
            refine (pick_any R (p2 + 1) (k : Int) _ R6.out (by omega) (by omega) (by omega)).mono ?_
            rintro e w7 ⟨x, rfl, hx, hr7, hs7⟩
            have hxk : x < k := by omega
            obtain ⟨g, rfl, hg, hgl, hkc⟩ := owns_at O6.out hz
            have R7 := Lib.hid hr7
            have O7 := Lib.hid (owns_step O6.out hs7 hRw)
            have S7 := Lib.hid (S6.out.trans hs7)
            clear hr7 hs7 R6 O6 S6
            have R8 : Hid (Rd (w7.alloc (.cells #[.int .i64 (-1), .int .i64 99, .int .i64 100] 3)) R (p2 + 1 + 1)) := R7.out.below ((Below.refl _ w7).alloc (Nat.le_refl _) _)
            go_wp2_with fail
            refine (pick_any R (p2 + 1 + 1) 3 _ R8.out (by omega) (by omega) (by omega)).mono ?_
            rintro e w8 ⟨y, rfl, hy, hr8, hs8⟩
            have hC : w8.cell? ⟨w7.heap.size, y, none⟩ = some (.int .i64 (v3c y)) := (World.cell?_of_block (hs8.block w7.heap.size (by simp) (by have := S7.out.size; simp; omega))).trans (v3c_cell w7 _ y (by omega))
            have O8 := Lib.hid (owns_step (O7.out.alloc (.cells #[.int .i64 (-1), .int .i64 99, .int .i64 100] 3)) hs8 hRw)
            have S8 := Lib.hid ((S7.out.alloc (.cells #[.int .i64 (-1), .int .i64 99, .int .i64 100] 3)).trans hs8)
            have R9 := Lib.hid hr8
            clear hr8 hs8 R7 R8 O7 S7
            have hcg : w8.cell? ⟨g, x, none⟩ = some (.int .i64 (zs[x]?.getD 0)) := owns_int O8.out HZ.out hxk rfl
            have hfz : w8.frozen? ⟨g, x, none⟩ = false := O8.out.frozenAt x
            have HST := Lib.hid (O8.out.stored x (.int .i64 (v3c y)))
            have hyl : (y : Int) < 3 := by omega
            have hxi : (x : Int) < (k : Int) := by omega
            go_wp2
            go_ret
            refine ⟨zs.set x (v3c y), some ⟨g, 0, none⟩, cap, _, rfl, ?_, by rw [List.length_set]; exact HZ.out, R9.out.grown HST.out.2 (fun i ei => by cases ei; omega), by omega, S8.out.grown HST.out.2 (fun i ei => .inl (by cases ei; omega))⟩
            rw [← map_set_int]
            exact HST.out.1
      · go_wp2
        go_loopw [7] (fun i wr => ∃ (j : Nat) (zs : List Int) (p' : Nat), j ≤ k ∧ i = .int .i64 (j : Int) ∧ Hid (wr.ownsRow w.heap.size 3 1 (.slice a k cap) k (zs.map (Value.int .i64))) ∧ Hid (zs.length = k) ∧ Hid (Rd wr R p') ∧ p' ≤ p2 + j ∧ Hid (Step R w wr)) (fun i _ => k - (intOf i).toNat)
        case atStart => exact ⟨0, zs, p2, Nat.zero_le _, rfl, O2, hzk, R2, by omega, S2⟩
        case round =>
          clear O2 R2 S2 hzk zs
          obtain ⟨j, zs, p3, hj, rfl, ho, hzk, hr, hp3, hs⟩ := hrel
          by_cases hlt2 : j < k
          · obtain ⟨g, rfl, hg, hgl, hkc⟩ := owns_at ho.out (by omega)
            have R8 : Hid (Rd (wr.alloc (.cells #[.int .i64 0, .int .i64 10, .int .i64 20, .int .i64 10] 3)) R p3) := hr.out.below ((Below.refl _ wr).alloc (Nat.le_refl _) _)
            go_wp2_with fail
            refine (pick_any R p3 4 _ R8.out (by omega) (by omega) (by omega)).mono ?_
            rintro e w8 ⟨y, rfl, hy, hr8, hs8⟩
            have hC : w8.cell? ⟨wr.heap.size, y, none⟩ = some (.int .i64 (v4c y)) := (World.cell?_of_block (hs8.block wr.heap.size (by simp) (by have := hs.out.size; simp; omega))).trans (v4c_cell wr _ y (by omega))
            have O8 := Lib.hid (owns_step (ho.out.alloc (.cells #[.int .i64 0, .int .i64 10, .int .i64 20, .int .i64 10] 3)) hs8 hRw)
            have S8 := Lib.hid ((hs.out.alloc (.cells #[.int .i64 0, .int .i64 10, .int .i64 20, .int .i64 10] 3)).trans hs8)
            have R9 := Lib.hid hr8
            clear hr8 hs8 R8 ho hs hr
            have hcg : w8.cell? ⟨g, j, none⟩ = some (.int .i64 (zs[j]?.getD 0)) := owns_int O8.out hzk.out hlt2 rfl
            have hfz : w8.frozen? ⟨g, j, none⟩ = false := O8.out.frozenAt j
            have HST := Lib.hid (O8.out.stored j (.int .i64 (v4c y)))
            have hyl : (y : Int) < 4 := by omega
            have hji : (j : Int) < (k : Int) := by omega
            have O10 : Hid ((w8.setCell ⟨g, j, none⟩ (.int .i64 (v4c y))).ownsRow w.heap.size 3 1 (.slice (some ⟨g, 0, none⟩) k cap) k ((zs.set j (v4c y)).map (Value.int .i64))) := by
              unfold Hid; rw [← map_set_int]; exact HST.out.1
            have R10 : Hid (Rd (w8.setCell ⟨g, j, none⟩ (.int .i64 (v4c y))) R (p3 + 1)) := R9.out.grown HST.out.2 (fun i ei => by cases ei; omega)
            have S10 : Hid (Step R w (w8.setCell ⟨g, j, none⟩ (.int .i64 (v4c y)))) := S8.out.grown HST.out.2 (fun i ei => .inl (by cases ei; omega))
            have Z10 : Hid ((zs.set j (v4c y)).length = k) := by unfold Hid; rw [List.length_set]; exact hzk.out
            clear HST O8 S8 R9
            go_wp2
            go_roundw
            case rel => exact ⟨j + 1, zs.set j (v4c y), p3 + 1, by omega, by go_num, O10, Z10, R10, by omega, S10⟩
            case measure => simp [intOf]; omega
          · obtain rfl : j = k := by omega
            have R5 := hr
            have O5 := ho
            have S5 := hs
            have HZ := hzk
            have hp5 : p3 ≤ p + 15 := by omega
            clear hr ho hs hzk
            rcases Nat.eq_zero_or_pos j with hz | hz
            · have hz1 : (j : Int) ≤ 0 := by omega
              subst hz
              go_wp2
              go_ret
              exact ⟨zs, a, cap, p3, rfl, O5.out, HZ.out, R5.out, by omega, S5.out⟩
            · go_wp2_with fail
              refine (pick_any R p3 24 _ R5.out (by omega) (by omega) (by omega)).mono ?_
              rintro e w6 ⟨d, rfl, hd, hr6, hs6⟩
              have R6 := Lib.hid hr6
              have O6 := Lib.hid (owns_step O5.out hs6 hRw)
              have S6 := Lib.hid (S5.out.trans hs6)
              clear hr6 hs6 R5 O5 S5
              cases hd0 : ((d : Int) == 0)
              · go_wp2
                go_ret
                exact ⟨zs, a, cap, p3 + 1, rfl, O6.out, HZ.out, R6.out, by omega, S6.out⟩
              · go_wp2_with fail
                refine (pick_any R (p3 + 1) (j : Int) _ R6.out (by omega) (by omega) (by omega)).mono ?_
                rintro e w7 ⟨x, rfl, hx, hr7, hs7⟩
                have hxk : x < j := by omega
                obtain ⟨g, rfl, hg, hgl, hkc⟩ := owns_at O6.out hz
                have R7 := Lib.hid hr7
                have O7 := Lib.hid (owns_step O6.out hs7 hRw)
                have S7 := Lib.hid (S6.out.trans hs7)
                clear hr7 hs7 R6 O6 S6
                have R8 : Hid (Rd (w7.alloc (.cells #[.int .i64 (-1), .int .i64 99, .int .i64 100] 3)) R (p3 + 1 + 1)) := R7.out.below ((Below.refl _ w7).alloc (Nat.le_refl _) _)
                go_wp2_with fail
                refine (pick_any R (p3 + 1 + 1) 3 _ R8.out (by omega) (by omega) (by omega)).mono ?_
                rintro e w8 ⟨y, rfl, hy, hr8, hs8⟩
                have hC : w8.cell? ⟨w7.heap.size, y, none⟩ = some (.int .i64 (v3c y)) := (World.cell?_of_block (hs8.block w7.heap.size (by simp) (by have := S7.out.size; simp; omega))).trans (v3c_cell w7 _ y (by omega))
                have O8 := Lib.hid (owns_step (O7.out.alloc (.cells #[.int .i64 (-1), .int .i64 99, .int .i64 100] 3)) hs8 hRw)
                have S8 := Lib.hid ((S7.out.alloc (.cells #[.int .i64 (-1), .int .i64 99, .int .i64 100] 3)).trans hs8)
                have R9 := Lib.hid hr8
                clear hr8 hs8 R7 R8 O7 S7
                have hcg : w8.cell? ⟨g, x, none⟩ = some (.int .i64 (zs[x]?.getD 0)) := owns_int O8.out HZ.out hxk rfl
                have hfz : w8.frozen? ⟨g, x, none⟩ = false := O8.out.frozenAt x
                have HST := Lib.hid (O8.out.stored x (.int .i64 (v3c y)))
                have hyl : (y : Int) < 3 := by omega
                have hxi : (x : Int) < (j : Int) := by omega
                go_wp2
                go_ret
                refine ⟨zs.set x (v3c y), some ⟨g, 0, none⟩, cap, _, rfl, ?_, by rw [List.length_set]; exact HZ.out, R9.out.grown HST.out.2 (fun i ei => by cases ei; omega), by omega, S8.out.grown HST.out.2 (fun i ei => .inl (by cases ei; omega))⟩
                rw [← map_set_int]
                exact HST.out.1

end Go.Proofs.Ytbcemgmfkddafaa
