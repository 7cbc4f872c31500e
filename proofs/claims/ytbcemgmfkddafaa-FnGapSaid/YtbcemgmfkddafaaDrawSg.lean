/-
  The drawn seats that were given (l92Given), and what the drawn statements of the next seat and of the check get (DrawSeatsNext, DrawSeatsCheck).
-/
import Derived.Test.YtbcemgmfkddafaaDrawSv
namespace Go.Proofs.Ytbcemgmfkddafaa
open Go.RowKit

attribute [local go_sem] Oper.semAt_some

theorem divL_short {vs : List Int} (h : vs.length ≤ 5) (s m : Int) (lots : List Int) : (divL vs s m lots).length ≤ 5 := by
  unfold divL
  split
  · rw [seatsL_length]; exact h
  · simp
/-- Seats that were drawn: in memory of the call's own; the reader has gone on. -/
def DrawnG (R p : Nat) (w : World) (e : Ending) (w' : World) : Prop := ∃ (zs : List Int) (a : Option Addr) (cap n p' : Nat), e = .returned (.slice a n cap) ∧ w'.ownsRow w.heap.size 3 1 (.slice a n cap) n (zs.map (Value.int .i64)) ∧ zs.length = n ∧ n ≤ 5 ∧ Rd w' R p' ∧ p' ≤ p + 40 ∧ Step R w w'

set_option maxRecDepth 100000 in
set_option maxHeartbeats 8000000 in
/-- **l92Given**. -/
theorem l92Given_any (R p n : Nat) (av : Option Addr) (cv : Nat) (vs : List Int) (m : Int) (G : Nat) (w : World) (h : Rd w R p) (hp : p + 100 ≤ 1000000) (hn : n ≤ 5) (hv : w.ownsRow G 3 1 (.slice av n cv) n (vs.map (Value.int .i64))) (hRG : R < G) :
    Calls Try.prog 63 #[.pointer (some ⟨R, 0, none⟩), .slice av n cv, .int .i64 m] w (DrawnG R p w) := by
  obtain ⟨i0, hi, hz0, hz1, hz2⟩ := info_parts int_info
  have hRw := h.1
  have HVL : Hid (vs.length = n) := by have h1 := hv.1; unfold Hid; simpa using h1
  have HO0 := Lib.hid (World.ownsRow_lit (base := w.heap.size) (e := 3) (size := 1) w #[] 0 (Nat.le_refl _) (by unfold maxLen; omega) rfl)
  have H0 : Hid (Rd (w.alloc (.cells #[] 3)) R p) := h.below ((Below.refl _ w).alloc (Nat.le_refl _) _)
  have S0 : Hid (Step R w (w.alloc (.cells #[] 3))) := (Step.refl R w).alloc _
  have V0 := Lib.hid hv
  clear h hv
  go_enter Try.func63, Try.ntmps63
  go_wp2
  go_loopw [7, 8] (fun o i wr => ∃ (k : Nat) (zs : List Int) (a : Option Addr) (cap p' : Nat), k ≤ n ∧ i = .int .i64 k ∧ o = .slice a k cap ∧ Hid (wr.ownsRow w.heap.size 3 1 (.slice a k cap) k (zs.map (Value.int .i64))) ∧ Hid (zs.length = k) ∧ Hid (Rd wr R p') ∧ p' ≤ p + k ∧ Hid (Step R w wr)) (fun _ i _ => n - (intOf i).toNat)
  case atStart => exact ⟨0, [], _, _, p, by omega, rfl, rfl, HO0, rfl, H0, by omega, S0⟩
  case round =>
    obtain ⟨k, zs, a, cap, p', hkn, rfl, rfl, ho, hzk, hr, hp', hs⟩ := hrel
    by_cases hlt : k < n
    · go_wp2_with fail
      refine (pick_any R p' 5 _ hr.out (by omega) (by omega) (by omega)).mono ?_
      rintro e w2 ⟨c, rfl, hc, hr2, hs2⟩
      have R2 := Lib.hid hr2
      have O2 := Lib.hid (owns_step ho.out hs2 hRw)
      have S2 := Lib.hid (hs.out.trans hs2)
      clear hr ho hs hr2 hs2
      go_wp2_with (at_builtin; refine wpList_append_own _ rfl _ _ 23 rfl w.heap.size 3 i0 (.int .i64 0) 1 8 Try.underlying23 hi hz0 hz1 hz2 rfl (by decide) _ _ _ rfl (O2.out.alloc _) ⟨w2.heap.size, 0, none⟩ 1 1 [.int .i64 (c : Int)] rfl rfl (cell_one_new _ _ _) (by simp [Value.oneCell']) (by unfold maxLen; omega) (by omega) (by have := S2.out.size; simp; omega) ?_; intro v' w4 hown' hgrow _; obtain ⟨a4, cap4, rfl⟩ := owns_slice hown')
      have hrow : ∀ j, (Value.slice a k cap).ownBlock = some j → w.heap.size ≤ j := fun j ej => (O2.out.lt j ej).1
      have R4 : Hid (Rd w4 R (p' + 1)) := (R2.out.below ((Below.refl _ w2).alloc (Nat.le_refl _) _)).grown hgrow (fun j ej => by have := hrow j ej; omega)
      have S4 : Hid (Step R w w4) := (S2.out.alloc _).grown hgrow (fun j ej => .inl (hrow j ej))
      have HL : Hid ((zs ++ [(c : Int)]).length = k + 1) := by unfold Hid; simp [hzk.out]
      have O4 : Hid (w4.ownsRow w.heap.size 3 1 (.slice a4 (k + 1) cap4) (k + 1) ((zs ++ [(c : Int)]).map (Value.int .i64))) := by
        unfold Hid; rw [List.map_append]; exact hown'
      clear hown' hgrow hrow
      go_wp2
      go_roundw
      case rel => exact ⟨k + 1, zs ++ [(c : Int)], a4, cap4, p' + 1, by omega, by go_num, rfl, O4, HL, R4, by omega, S4⟩
      case measure => simp [intOf]; omega
    · obtain rfl : k = n := by omega
      clear HO0 H0 S0
      go_wp2_with fail
      refine (pick_any R p' 120 _ hr.out (by omega) (by omega) (by omega)).mono ?_
      rintro e w2 ⟨c, rfl, hc, hr2, hs2⟩
      have R2 := Lib.hid hr2
      have O2 := Lib.hid (owns_step ho.out hs2 hRw)
      have S2 := Lib.hid (hs.out.trans hs2)
      clear hr ho hs hr2 hs2
      obtain ⟨pl, hpl⟩ : ∃ pl, lotsI (k : Int) (c : Int) = pl := ⟨_, rfl⟩
      obtain ⟨ok, hok⟩ : ∃ ok, okLots (k : Int) (c : Int) = ok := ⟨_, rfl⟩
      have hp5 : pl.length ≤ 5 := by rw [← hpl]; exact lotsI_short _ _
      have HP := Lib.hid hpl
      have HK := Lib.hid hok
      clear hpl hok
      go_wp2_with fail
      refine (specLotsOf_as (k : Int) (c : Int) pl ok _ HP.out HK.out).mono ?_
      rintro e w3 ⟨a3, c3, rfl, ho3, hb3⟩
      have R3 := Lib.hid (R2.out.below hb3)
      have O3 := Lib.hid (owns_under O2.out hb3)
      have S3 := Lib.hid (step_under2 S2.out hb3)
      have g2 : R < w2.heap.size := R2.out.1
      have L3 := Lib.hid ho3
      clear ho3 hb3 R2 O2 S2
      go_wp2_with fail
      refine (pick_any R (p' + 1) 20 _ R3.out (by omega) (by omega) (by omega)).mono ?_
      rintro e w4 ⟨s, rfl, hs20, hr4, hs4⟩
      have R4 := Lib.hid hr4
      have O4 := Lib.hid (owns_step O3.out hs4 hRw)
      have L4 := Lib.hid (owns_step L3.out hs4 g2)
      have S4 := Lib.hid (S3.out.trans hs4)
      have V4 := Lib.hid (owns_step V0.out S4.out hRG)
      clear hr4 hs4 R3 O3 S3 L3
      obtain ⟨x, hx⟩ : ∃ x, divL vs (s : Int) m pl = x := ⟨_, rfl⟩
      obtain ⟨v, hv⟩ : ∃ v, okD vs (s : Int) m pl = v := ⟨_, rfl⟩
      have hx5 : x.length ≤ 5 := by rw [← hx]; exact divL_short (by rw [HVL.out]; exact hn) _ _ _
      have HX := Lib.hid hx
      have HV := Lib.hid hv
      clear hx hv
      go_wp2_with fail
      refine (specSeats_as _ k cv vs (s : Int) m _ pl.length c3 pl x v _ (IsInts.of_owned V4.out (by omega)) (IsInts.of_owned L4.out (by omega)) HV.out HX.out).mono ?_
      rintro e w5 ⟨a5, c5, rfl, ho5, hb5⟩
      have R5' := Lib.hid (R4.out.below hb5)
      have O5' := Lib.hid (owns_under O4.out hb5)
      have S5' := Lib.hid (step_under2 S4.out hb5)
      have X5' := Lib.hid (World.ownsRow.mono ho5 S4.out.size)
      clear ho5 hb5 R4 O4 S4 L4 V4
      cases v
      · skip
        have R5 := R5'
        have O5 := O5'
        have S5 := S5'
        have HZ := hzk
        have hK5 : k ≤ 5 := hn
        have hp5 : (p' + 1 + 1) ≤ p + 15 := by omega
        clear R5' O5' S5' hzk X5'
        rcases Nat.eq_zero_or_pos k with hz | hz
        · have hd0 : decide ((0 : Int) < (k : Int)) = false := decide_eq_false (by omega)
          have hd0' : decide (0 < k) = false := decide_eq_false (by omega)
          clear hz
          go_wp2
          go_ret
          exact ⟨zs, a, cap, k, (p' + 1 + 1), rfl, O5.out, HZ.out, by omega, R5.out, by omega, S5.out⟩
        · have hd0 : decide ((0 : Int) < (k : Int)) = true := decide_eq_true (by omega)
          have hd0' : decide (0 < k) = true := decide_eq_true (by omega)
          obtain ⟨g, rfl, hg, hgl, hkc⟩ := owns_at O5.out hz
          go_wp2_with fail
          refine (pick_any R (p' + 1 + 1) (k : Int) _ R5.out (by omega) (by omega) (by omega)).mono ?_
          rintro e w6 ⟨x, rfl, hx, hr6, hs6⟩
          have hxk : x < k := by omega
          have R6 := Lib.hid hr6
          have O6 := Lib.hid (owns_step O5.out hs6 hRw)
          have S6 := Lib.hid (S5.out.trans hs6)
          clear hr6 hs6 R5 O5 S5
          go_wp2_with fail
          refine (pick_any R ((p' + 1 + 1) + 1) 10 _ R6.out (by omega) (by omega) (by omega)).mono ?_
          rintro e w7 ⟨f, rfl, hf, hr7, hs7⟩
          have R7 := Lib.hid hr7
          have O7 := Lib.hid (owns_step O6.out hs7 hRw)
          have S7 := Lib.hid (S6.out.trans hs7)
          have hxi : (x : Int) < (k : Int) := by omega
          clear hr7 hs7 R6 O6 S6
          by_cases hf0 : f = 0
          · subst hf0
            have q0 := owns_int O7.out HZ.out hxk rfl
            have f0 : w7.frozen? ⟨g, x, none⟩ = false := O7.out.frozenAt x
            obtain ⟨z, hz1⟩ : ∃ z, zs[x]?.getD 0 = z := ⟨_, rfl⟩
            rw [hz1] at q0
            obtain ⟨z2, hz2⟩ : ∃ z2, IntKind.i64.wrap (z + 1) = z2 := ⟨_, rfl⟩
            have HST := Lib.hid (O7.out.stored x (.int .i64 z2))
            clear hz1
            go_wp2
            go_ret
            refine ⟨zs.set x z2, some ⟨g, 0, none⟩, cap, k, _, rfl, ?_, by rw [List.length_set]; exact HZ.out, by omega, R7.out.grown HST.out.2 (fun i ei => by cases ei; omega), by omega, S7.out.grown HST.out.2 (fun i ei => .inl (by cases ei; omega))⟩
            rw [← map_set_int]
            exact HST.out.1
          by_cases hf1 : f = 1
          · subst hf1
            have q0 := owns_int O7.out HZ.out hxk rfl
            have f0 : w7.frozen? ⟨g, x, none⟩ = false := O7.out.frozenAt x
            obtain ⟨z, hz1⟩ : ∃ z, zs[x]?.getD 0 = z := ⟨_, rfl⟩
            rw [hz1] at q0
            obtain ⟨z2, hz2⟩ : ∃ z2, IntKind.i64.wrap (z - 1) = z2 := ⟨_, rfl⟩
            have HST := Lib.hid (O7.out.stored x (.int .i64 z2))
            clear hz1
            go_wp2
            go_ret
            refine ⟨zs.set x z2, some ⟨g, 0, none⟩, cap, k, _, rfl, ?_, by rw [List.length_set]; exact HZ.out, by omega, R7.out.grown HST.out.2 (fun i ei => by cases ei; omega), by omega, S7.out.grown HST.out.2 (fun i ei => .inl (by cases ei; omega))⟩
            rw [← map_set_int]
            exact HST.out.1
          have ne0 : ((f : Int) == 0) = false := by simp; omega
          have ne1 : ((f : Int) == 1) = false := by simp; omega
          by_cases hf2 : f = 2
          · subst hf2
            clear ne0 ne1
            go_wp2_with fail
            refine (pick_any R ((p' + 1 + 1) + 1 + 1) 3 _ R7.out (by omega) (by omega) (by omega)).mono ?_
            rintro e w8 ⟨y, rfl, hy, hr8, hs8⟩
            have R8 := Lib.hid hr8
            have O8 := Lib.hid (owns_step O7.out hs8 hRw)
            have S8 := Lib.hid (S7.out.trans hs8)
            clear hr8 hs8 R7 O7 S7
            cases hy0 : ((y : Int) == 0)
            · go_wp2
              go_ret
              exact ⟨zs, some ⟨g, 0, none⟩, cap, k, (p' + 1 + 1) + 1 + 1 + 1, rfl, O8.out, HZ.out, by omega, R8.out, by omega, S8.out⟩
            · have hx0 : (0 : Int) ≤ (x : Int) := by omega
              have hxc : (x : Int) ≤ (cap : Int) := by omega
              have O9 := Lib.hid (owns_part O8.out (Nat.le_of_lt hxk))
              go_wp2
              go_ret
              refine ⟨zs.take x, some ⟨g, 0, none⟩, cap, x, _, rfl, ?_, by rw [List.length_take, HZ.out]; omega, by omega, R8.out, by omega, S8.out⟩
              rw [List.map_take]
              exact O9.out
          have ne2 : ((f : Int) == 2) = false := by simp; omega
          clear hf0 hf1 hf2
          go_wp2
          go_ret
          exact ⟨zs, some ⟨g, 0, none⟩, cap, k, (p' + 1 + 1) + 1 + 1, rfl, O7.out, HZ.out, by omega, R7.out, by omega, S7.out⟩
      go_wp2_with fail
      refine (pick_any R (p' + 1 + 1) 4 _ R5'.out (by omega) (by omega) (by omega)).mono ?_
      rintro e w5b ⟨u, rfl, hu, hr5, hs5⟩
      have R6' := Lib.hid hr5
      have O6' := Lib.hid (owns_step O5'.out hs5 hRw)
      have X6' := Lib.hid (owns_step X5'.out hs5 hRw)
      have S6' := Lib.hid (S5'.out.trans hs5)
      clear hr5 hs5 R5' O5' X5' S5'
      by_cases hu0 : 0 < u
      · have hud : decide ((0 : Int) < (u : Int)) = true := decide_eq_true (by omega)
        have hud' : decide (0 < u) = true := decide_eq_true hu0
        have HXL : Hid (x.length = x.length) := rfl
        have R5 := R6'
        have O5 := X6'
        have S5 := S6'
        have HZ : Hid (x.length = x.length) := rfl
        have hK5 : x.length ≤ 5 := hx5
        have hp5 : (p' + 1 + 1 + 1) ≤ p + 15 := by omega
        clear R6' O6' S6' X6' HXL
        rcases Nat.eq_zero_or_pos x.length with hz | hz
        · have hd0 : decide ((0 : Int) < (x.length : Int)) = false := decide_eq_false (by omega)
          have hd0' : decide (0 < x.length) = false := decide_eq_false (by omega)
          clear hz
          go_wp2
          go_ret
          exact ⟨x, a5, c5, x.length, (p' + 1 + 1 + 1), rfl, O5.out, rfl, by omega, R5.out, by omega, S5.out⟩
        · have hd0 : decide ((0 : Int) < (x.length : Int)) = true := decide_eq_true (by omega)
          have hd0' : decide (0 < x.length) = true := decide_eq_true (by omega)
          obtain ⟨g, rfl, hg, hgl, hkc⟩ := owns_at O5.out hz
          go_wp2_with fail
          refine (pick_any R (p' + 1 + 1 + 1) (x.length : Int) _ R5.out (by omega) (by omega) (by omega)).mono ?_
          rintro e w6 ⟨xi, rfl, hx, hr6, hs6⟩
          have hxk : xi < x.length := by omega
          have R6 := Lib.hid hr6
          have O6 := Lib.hid (owns_step O5.out hs6 hRw)
          have S6 := Lib.hid (S5.out.trans hs6)
          clear hr6 hs6 R5 O5 S5
          go_wp2_with fail
          refine (pick_any R ((p' + 1 + 1 + 1) + 1) 10 _ R6.out (by omega) (by omega) (by omega)).mono ?_
          rintro e w7 ⟨f, rfl, hf, hr7, hs7⟩
          have R7 := Lib.hid hr7
          have O7 := Lib.hid (owns_step O6.out hs7 hRw)
          have S7 := Lib.hid (S6.out.trans hs7)
          have hxi : (xi : Int) < (x.length : Int) := by omega
          clear hr7 hs7 R6 O6 S6
          by_cases hf0 : f = 0
          · subst hf0
            have q0 := owns_int O7.out rfl hxk rfl
            have f0 : w7.frozen? ⟨g, xi, none⟩ = false := O7.out.frozenAt xi
            obtain ⟨z, hz1⟩ : ∃ z, x[xi]?.getD 0 = z := ⟨_, rfl⟩
            rw [hz1] at q0
            obtain ⟨z2, hz2⟩ : ∃ z2, IntKind.i64.wrap (z + 1) = z2 := ⟨_, rfl⟩
            have HST := Lib.hid (O7.out.stored xi (.int .i64 z2))
            clear hz1
            go_wp2
            go_ret
            refine ⟨x.set xi z2, some ⟨g, 0, none⟩, c5, x.length, _, rfl, ?_, by rw [List.length_set], by omega, R7.out.grown HST.out.2 (fun i ei => by cases ei; omega), by omega, S7.out.grown HST.out.2 (fun i ei => .inl (by cases ei; omega))⟩
            rw [← map_set_int]
            exact HST.out.1
          by_cases hf1 : f = 1
          · subst hf1
            have q0 := owns_int O7.out rfl hxk rfl
            have f0 : w7.frozen? ⟨g, xi, none⟩ = false := O7.out.frozenAt xi
            obtain ⟨z, hz1⟩ : ∃ z, x[xi]?.getD 0 = z := ⟨_, rfl⟩
            rw [hz1] at q0
            obtain ⟨z2, hz2⟩ : ∃ z2, IntKind.i64.wrap (z - 1) = z2 := ⟨_, rfl⟩
            have HST := Lib.hid (O7.out.stored xi (.int .i64 z2))
            clear hz1
            go_wp2
            go_ret
            refine ⟨x.set xi z2, some ⟨g, 0, none⟩, c5, x.length, _, rfl, ?_, by rw [List.length_set], by omega, R7.out.grown HST.out.2 (fun i ei => by cases ei; omega), by omega, S7.out.grown HST.out.2 (fun i ei => .inl (by cases ei; omega))⟩
            rw [← map_set_int]
            exact HST.out.1
          have ne0 : ((f : Int) == 0) = false := by simp; omega
          have ne1 : ((f : Int) == 1) = false := by simp; omega
          by_cases hf2 : f = 2
          · subst hf2
            clear ne0 ne1
            go_wp2_with fail
            refine (pick_any R ((p' + 1 + 1 + 1) + 1 + 1) 3 _ R7.out (by omega) (by omega) (by omega)).mono ?_
            rintro e w8 ⟨y, rfl, hy, hr8, hs8⟩
            have R8 := Lib.hid hr8
            have O8 := Lib.hid (owns_step O7.out hs8 hRw)
            have S8 := Lib.hid (S7.out.trans hs8)
            clear hr8 hs8 R7 O7 S7
            cases hy0 : ((y : Int) == 0)
            · go_wp2
              go_ret
              exact ⟨x, some ⟨g, 0, none⟩, c5, x.length, (p' + 1 + 1 + 1) + 1 + 1 + 1, rfl, O8.out, rfl, by omega, R8.out, by omega, S8.out⟩
            · have hx : (0 : Int) ≤ (xi : Int) := by omega
              have hxc : (xi : Int) ≤ (c5 : Int) := by omega
              have O9 := Lib.hid (owns_part O8.out (Nat.le_of_lt hxk))
              go_wp2
              go_ret
              refine ⟨x.take xi, some ⟨g, 0, none⟩, c5, xi, _, rfl, ?_, by rw [List.length_take]; omega, by omega, R8.out, by omega, S8.out⟩
              rw [List.map_take]
              exact O9.out
          have ne2 : ((f : Int) == 2) = false := by simp; omega
          clear hf0 hf1 hf2
          go_wp2
          go_ret
          exact ⟨x, some ⟨g, 0, none⟩, c5, x.length, (p' + 1 + 1 + 1) + 1 + 1, rfl, O7.out, rfl, by omega, R7.out, by omega, S7.out⟩
      · have hud : decide ((0 : Int) < (u : Int)) = false := decide_eq_false (by omega)
        have hud' : decide (0 < u) = false := decide_eq_false hu0
        clear hu0
        have R5 := R6'
        have O5 := O6'
        have S5 := S6'
        have HZ := hzk
        have hK5 : k ≤ 5 := hn
        have hp5 : (p' + 1 + 1 + 1) ≤ p + 15 := by omega
        clear R6' O6' S6' hzk X6'
        rcases Nat.eq_zero_or_pos k with hz | hz
        · have hd0 : decide ((0 : Int) < (k : Int)) = false := decide_eq_false (by omega)
          have hd0' : decide (0 < k) = false := decide_eq_false (by omega)
          clear hz
          go_wp2
          go_ret
          exact ⟨zs, a, cap, k, (p' + 1 + 1 + 1), rfl, O5.out, HZ.out, by omega, R5.out, by omega, S5.out⟩
        · have hd0 : decide ((0 : Int) < (k : Int)) = true := decide_eq_true (by omega)
          have hd0' : decide (0 < k) = true := decide_eq_true (by omega)
          obtain ⟨g, rfl, hg, hgl, hkc⟩ := owns_at O5.out hz
          go_wp2_with fail
          refine (pick_any R (p' + 1 + 1 + 1) (k : Int) _ R5.out (by omega) (by omega) (by omega)).mono ?_
          rintro e w6 ⟨x, rfl, hx, hr6, hs6⟩
          have hxk : x < k := by omega
          have R6 := Lib.hid hr6
          have O6 := Lib.hid (owns_step O5.out hs6 hRw)
          have S6 := Lib.hid (S5.out.trans hs6)
          clear hr6 hs6 R5 O5 S5
          go_wp2_with fail
          refine (pick_any R ((p' + 1 + 1 + 1) + 1) 10 _ R6.out (by omega) (by omega) (by omega)).mono ?_
          rintro e w7 ⟨f, rfl, hf, hr7, hs7⟩
          have R7 := Lib.hid hr7
          have O7 := Lib.hid (owns_step O6.out hs7 hRw)
          have S7 := Lib.hid (S6.out.trans hs7)
          have hxi : (x : Int) < (k : Int) := by omega
          clear hr7 hs7 R6 O6 S6
          by_cases hf0 : f = 0
          · subst hf0
            have q0 := owns_int O7.out HZ.out hxk rfl
            have f0 : w7.frozen? ⟨g, x, none⟩ = false := O7.out.frozenAt x
            obtain ⟨z, hz1⟩ : ∃ z, zs[x]?.getD 0 = z := ⟨_, rfl⟩
            rw [hz1] at q0
            obtain ⟨z2, hz2⟩ : ∃ z2, IntKind.i64.wrap (z + 1) = z2 := ⟨_, rfl⟩
            have HST := Lib.hid (O7.out.stored x (.int .i64 z2))
            clear hz1
            go_wp2
            go_ret
            refine ⟨zs.set x z2, some ⟨g, 0, none⟩, cap, k, _, rfl, ?_, by rw [List.length_set]; exact HZ.out, by omega, R7.out.grown HST.out.2 (fun i ei => by cases ei; omega), by omega, S7.out.grown HST.out.2 (fun i ei => .inl (by cases ei; omega))⟩
            rw [← map_set_int]
            exact HST.out.1
          by_cases hf1 : f = 1
          · subst hf1
            have q0 := owns_int O7.out HZ.out hxk rfl
            have f0 : w7.frozen? ⟨g, x, none⟩ = false := O7.out.frozenAt x
            obtain ⟨z, hz1⟩ : ∃ z, zs[x]?.getD 0 = z := ⟨_, rfl⟩
            rw [hz1] at q0
            obtain ⟨z2, hz2⟩ : ∃ z2, IntKind.i64.wrap (z - 1) = z2 := ⟨_, rfl⟩
            have HST := Lib.hid (O7.out.stored x (.int .i64 z2))
            clear hz1
            go_wp2
            go_ret
            refine ⟨zs.set x z2, some ⟨g, 0, none⟩, cap, k, _, rfl, ?_, by rw [List.length_set]; exact HZ.out, by omega, R7.out.grown HST.out.2 (fun i ei => by cases ei; omega), by omega, S7.out.grown HST.out.2 (fun i ei => .inl (by cases ei; omega))⟩
            rw [← map_set_int]
            exact HST.out.1
          have ne0 : ((f : Int) == 0) = false := by simp; omega
          have ne1 : ((f : Int) == 1) = false := by simp; omega
          by_cases hf2 : f = 2
          · subst hf2
            clear ne0 ne1
            go_wp2_with fail
            refine (pick_any R ((p' + 1 + 1 + 1) + 1 + 1) 3 _ R7.out (by omega) (by omega) (by omega)).mono ?_
            rintro e w8 ⟨y, rfl, hy, hr8, hs8⟩
            have R8 := Lib.hid hr8
            have O8 := Lib.hid (owns_step O7.out hs8 hRw)
            have S8 := Lib.hid (S7.out.trans hs8)
            clear hr8 hs8 R7 O7 S7
            cases hy0 : ((y : Int) == 0)
            · go_wp2
              go_ret
              exact ⟨zs, some ⟨g, 0, none⟩, cap, k, (p' + 1 + 1 + 1) + 1 + 1 + 1, rfl, O8.out, HZ.out, by omega, R8.out, by omega, S8.out⟩
            · have hx0 : (0 : Int) ≤ (x : Int) := by omega
              have hxc : (x : Int) ≤ (cap : Int) := by omega
              have O9 := Lib.hid (owns_part O8.out (Nat.le_of_lt hxk))
              go_wp2
              go_ret
              refine ⟨zs.take x, some ⟨g, 0, none⟩, cap, x, _, rfl, ?_, by rw [List.length_take, HZ.out]; omega, by omega, R8.out, by omega, S8.out⟩
              rw [List.map_take]
              exact O9.out
          have ne2 : ((f : Int) == 2) = false := by simp; omega
          clear hf0 hf1 hf2
          go_wp2
          go_ret
          exact ⟨zs, some ⟨g, 0, none⟩, cap, k, (p' + 1 + 1 + 1) + 1 + 1, rfl, O7.out, HZ.out, by omega, R7.out, by omega, S7.out⟩

end Go.Proofs.Ytbcemgmfkddafaa
