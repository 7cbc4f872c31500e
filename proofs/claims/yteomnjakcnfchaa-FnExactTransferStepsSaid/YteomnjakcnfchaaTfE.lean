/-
  The exact laws' own functions over fractions and steps: comparison of what is equal. They write into no memory that was there.
-/
import Derived.Test.YteomnjakcnfchaaGrp14
import Derived.Test.YteomnjakcnfchaaGrpQ
namespace Go.Proofs.Yteomnjakcnfchaa
open Go.RowKit

attribute [local go_sem] Oper.semAt_some

set_option maxRecDepth 100000 in
set_option maxHeartbeats 2000000 in
/-- **eqFracS** of equal rows. -/
theorem eqFracS_self (a : Option Addr) (len cap : Nat) (cs : List Fr) (b : Option Addr) (cap' : Nat) (w : World) (h : IsFr w a len cap cs) (h' : IsFr w b len cap' cs) :
    Calls Try.prog 102 #[.slice a len cap, .slice b len cap'] w fun e w' => e = .returned (.bool true) ∧ Below w.heap.size w w' := by
  obtain ⟨G, hG⟩ : ∃ G, w.heap.size = G := ⟨_, rfl⟩
  have H1 := Lib.hid h
  have H2 := Lib.hid h'
  have hlm := h.2.2.1
  have hnn : ((len : Int) != (len : Int)) = false := by simp
  clear h h'
  go_enter Try.func102, Try.ntmps102
  go_wp2
  go_loopw [5] (fun iv wr => ∃ j : Nat, j ≤ len ∧ iv = .int .i64 (j : Int) ∧ Hid (Below G w wr)) (fun iv _ => len - (intOf iv).toNat)
  case atStart => exact ⟨0, Nat.zero_le _, rfl, hG ▸ Below.refl _ _⟩
  case round =>
    obtain ⟨j, hj, rfl, hB⟩ := hrel
    have hBw : Below w.heap.size w wr := hG.symm ▸ hB.out
    by_cases hlt : j < len
    · obtain ⟨b1, o1, rfl, hl1, hc1⟩ := (H1.out.below hBw).2.2.2 (by omega)
      obtain ⟨b2, o2, rfl, hl2, hc2⟩ := (H2.out.below hBw).2.2.2 (by omega)
      obtain ⟨x, y, hxy⟩ : ∃ x y, fAt cs j = (x, y) := ⟨_, _, rfl⟩
      have k1 := (hc1 j hlt).1
      have k2 := (hc1 j hlt).2
      have k3 := (hc2 j hlt).1
      have k4 := (hc2 j hlt).2
      rw [hxy] at k1 k2 k3 k4
      have u1 : ∀ u : Beh wr, u.w.cell? ⟨b1, o1 + j * 2, none⟩ = _ := Beh.cell k1 hl1
      have u2 : ∀ u : Beh wr, u.w.cell? ⟨b1, o1 + j * 2 + 1, none⟩ = _ := Beh.cell k2 hl1
      have u3 : ∀ u : Beh wr, u.w.cell? ⟨b2, o2 + j * 2, none⟩ = _ := Beh.cell k3 hl2
      have u4 : ∀ u : Beh wr, u.w.cell? ⟨b2, o2 + j * 2 + 1, none⟩ = _ := Beh.cell k4 hl2
      have hji : (j : Int) < (len : Int) := by omega
      have HEQ : Hid (eqF x y x y = true) := by unfold Hid eqF; simp
      clear hc1 hc2 k1 k2 k3 k4 hxy
      go_wp2_with fail
      refine wp_region_below_tail 8 (by kernel_rfl) (by kernel_rfl) ?_
      simp only [List.take_succ_cons, List.take_zero, List.drop_succ_cons, List.drop_zero]
      repeat (go_big_quiet_step (fail))
      refine wpQuiet_nil ?_
      rintro w8 ⟨⟨_, hb8'⟩, he⟩
      have hb8 : Below wr.heap.size wr w8 := by rw [he]; exact hb8'
      have B8 : Hid (Below G w w8) := hG ▸ below_on hBw hb8
      clear he hb8' u1 u2 u3 u4 hb8 hBw hB
      go_wp2_with fail
      refine (eqFrac_as x y x y true _ HEQ.out).mono ?_
      rintro e w9 ⟨rfl, hb9⟩
      have B9 : Hid (Below G w w9) := hG ▸ below_on (hG.symm ▸ B8.out : Below w.heap.size w w8) hb9
      clear hb9 B8
      go_wp2
      go_roundw
      case rel => exact ⟨j + 1, by omega, by go_num, B9⟩
      case measure => simp [intOf]; omega
    · obtain rfl : j = len := by omega
      go_wp2
      go_ret
      exact ⟨rfl, hBw⟩

set_option maxRecDepth 100000 in
set_option maxHeartbeats 2000000 in
/-- **eqStep** of equal steps. -/
theorem eqStep_self (a : Option Addr) (len cap : Nat) (cs : List Fr) (b : Option Addr) (cap' : Nat) (x k : Int) (w : World) (h : IsFr w a len cap cs) (h' : IsFr w b len cap' cs) :
    Calls Try.prog 69 #[.agg #[.slice a len cap, .int .i64 x, .int .i64 k], .agg #[.slice b len cap', .int .i64 x, .int .i64 k]] w fun e w' => e = .returned (.bool true) ∧ Below w.heap.size w w' := by
  obtain ⟨w1, hw1⟩ : ∃ w1, w.alloc (.cells #[.slice a len cap, .int .i64 x, .int .i64 k] 39) = w1 := ⟨_, rfl⟩
  obtain ⟨w2, hw2⟩ : ∃ w2, w1.alloc (.cells #[.slice b len cap', .int .i64 x, .int .i64 k] 39) = w2 := ⟨_, rfl⟩
  have b1 : Below w.heap.size w w1 := by rw [← hw1]; exact (Below.refl _ _).alloc (Nat.le_refl _) _
  have b12 : Below w1.heap.size w1 w2 := by rw [← hw2]; exact (Below.refl _ _).alloc (Nat.le_refl _) _
  have hsz : w.heap.size < w1.heap.size := by rw [← hw1]; simp
  have hsz2 : w1.heap.size < w2.heap.size := by rw [← hw2]; simp
  have s0 : w2.cell? ⟨w.heap.size, 0, none⟩ = some (.slice a len cap) := (b12.cell (p := ⟨w.heap.size, 0, none⟩) hsz).trans (by rw [← hw1]; exact World.cell?_alloc_new w _ _ 0)
  have s1 : w2.cell? ⟨w.heap.size, 1, none⟩ = some (.int .i64 x) := (b12.cell (p := ⟨w.heap.size, 1, none⟩) hsz).trans (by rw [← hw1]; exact World.cell?_alloc_new w _ _ 1)
  have s2 : w2.cell? ⟨w.heap.size, 2, none⟩ = some (.int .i64 k) := (b12.cell (p := ⟨w.heap.size, 2, none⟩) hsz).trans (by rw [← hw1]; exact World.cell?_alloc_new w _ _ 2)
  have t0 : w2.cell? ⟨w1.heap.size, 0, none⟩ = some (.slice b len cap') := by rw [← hw2]; exact World.cell?_alloc_new w1 _ _ 0
  have t1 : w2.cell? ⟨w1.heap.size, 1, none⟩ = some (.int .i64 x) := by rw [← hw2]; exact World.cell?_alloc_new w1 _ _ 1
  have t2 : w2.cell? ⟨w1.heap.size, 2, none⟩ = some (.int .i64 k) := by rw [← hw2]; exact World.cell?_alloc_new w1 _ _ 2
  have B2 := Lib.hid (below_on b1 b12)
  have H1 := Lib.hid (h.below B2.out)
  have H2 := Lib.hid (h'.below B2.out)
  have hxx : (x != x) = false := by simp
  have hkk : (k != k) = false := by simp
  clear h h' b1 b12
  go_enter Try.func69, Try.ntmps69
  go_wp2_with (go_at_call 102; refine (eqFracS_self a len cap cs b cap' _ H1.out H2.out).mono ?_; rintro e w3 ⟨rfl, hb3⟩; have s1' : w3.cell? ⟨w.heap.size, 1, none⟩ = some (.int .i64 x) := (hb3.cell (p := ⟨w.heap.size, 1, none⟩) (by show w.heap.size < w2.heap.size; omega)).trans s1; have s2' : w3.cell? ⟨w.heap.size, 2, none⟩ = some (.int .i64 k) := (hb3.cell (p := ⟨w.heap.size, 2, none⟩) (by show w.heap.size < w2.heap.size; omega)).trans s2; have t1' : w3.cell? ⟨w1.heap.size, 1, none⟩ = some (.int .i64 x) := (hb3.cell (p := ⟨w1.heap.size, 1, none⟩) hsz2).trans t1; have t2' : w3.cell? ⟨w1.heap.size, 2, none⟩ = some (.int .i64 k) := (hb3.cell (p := ⟨w1.heap.size, 2, none⟩) hsz2).trans t2; have B3 := Lib.hid (below_on B2.out hb3); clear hb3)
  go_ret
  exact ⟨rfl, B3.out⟩

set_option maxRecDepth 100000 in
set_option maxHeartbeats 2000000 in
/-- **eqStepS** of equal rows of steps, each of n counts. -/
theorem eqStepS_self (a : Option Addr) (len cap : Nat) (ss : List TfStp) (b : Option Addr) (cap' : Nat) (w : World) (h : IsSt w a len cap ss) (h' : IsSt w b len cap' ss) :
    Calls Try.prog 38 #[.slice a len cap, .slice b len cap'] w fun e w' => e = .returned (.bool true) ∧ Below w.heap.size w w' := by
  obtain ⟨G, hG⟩ : ∃ G, w.heap.size = G := ⟨_, rfl⟩
  have H1 := Lib.hid h
  have H2 := Lib.hid h'
  have hlm := h.2.2.1
  have hsl := h.1
  have hnn : ((len : Int) != (len : Int)) = false := by simp
  clear h h'
  go_enter Try.func38, Try.ntmps38
  go_wp2
  go_loopw [5] (fun iv wr => ∃ j : Nat, j ≤ len ∧ iv = .int .i64 (j : Int) ∧ Hid (Below G w wr)) (fun iv _ => len - (intOf iv).toNat)
  case atStart => exact ⟨0, Nat.zero_le _, rfl, hG ▸ Below.refl _ _⟩
  case round =>
    obtain ⟨j, hj, rfl, hB⟩ := hrel
    have hBw : Below w.heap.size w wr := hG.symm ▸ hB.out
    by_cases hlt : j < len
    · obtain ⟨⟨cs, x, k⟩, hst⟩ : ∃ st, ss[j]? = some st := ⟨_, List.getElem?_eq_getElem (by omega)⟩
      obtain ⟨b1, o1, a1, l1, c1, rfl, hl1, k0, k1, k2, f1⟩ := (H1.out.below hBw).at hst
      obtain ⟨b2, o2, a2, l2, c2, rfl, hl2, m0, m1, m2, f2⟩ := (H2.out.below hBw).at hst
      have k1 : wr.cell? ⟨b1, o1 + j * 3 + 1, none⟩ = some (.int .i64 x) := k1
      have k2 : wr.cell? ⟨b1, o1 + j * 3 + 2, none⟩ = some (.int .i64 (k : Int)) := k2
      have m1 : wr.cell? ⟨b2, o2 + j * 3 + 1, none⟩ = some (.int .i64 x) := m1
      have m2 : wr.cell? ⟨b2, o2 + j * 3 + 2, none⟩ = some (.int .i64 (k : Int)) := m2
      have e12 : l1 = l2 := f1.1.symm.trans f2.1
      subst e12
      have u0 : ∀ u : Beh wr, u.w.cell? ⟨b1, o1 + j * 3, none⟩ = _ := Beh.cell k0 hl1
      have u1 : ∀ u : Beh wr, u.w.cell? ⟨b1, o1 + j * 3 + 1, none⟩ = _ := Beh.cell k1 hl1
      have u2 : ∀ u : Beh wr, u.w.cell? ⟨b1, o1 + j * 3 + 2, none⟩ = _ := Beh.cell k2 hl1
      have u3 : ∀ u : Beh wr, u.w.cell? ⟨b2, o2 + j * 3, none⟩ = _ := Beh.cell m0 hl2
      have u4 : ∀ u : Beh wr, u.w.cell? ⟨b2, o2 + j * 3 + 1, none⟩ = _ := Beh.cell m1 hl2
      have u5 : ∀ u : Beh wr, u.w.cell? ⟨b2, o2 + j * 3 + 2, none⟩ = _ := Beh.cell m2 hl2
      have hji : (j : Int) < (len : Int) := by omega
      have F1 := Lib.hid f1
      have F2 := Lib.hid f2
      clear k0 k1 k2 m0 m1 m2 f1 f2 hst
      go_wp2_with fail
      refine wp_region_below_tail 8 (by kernel_rfl) (by kernel_rfl) ?_
      simp only [List.take_succ_cons, List.take_zero, List.drop_succ_cons, List.drop_zero]
      repeat (go_big_quiet_step (fail))
      refine wpQuiet_nil ?_
      rintro w8 ⟨⟨_, hb8'⟩, he⟩
      have hb8 : Below wr.heap.size wr w8 := by rw [he]; exact hb8'
      have B8 : Hid (Below G w w8) := hG ▸ below_on hBw hb8
      have F18 := Lib.hid (F1.out.below hb8)
      have F28 := Lib.hid (F2.out.below hb8)
      clear he hb8' u0 u1 u2 u3 u4 u5 hb8 hBw hB F1 F2
      go_wp2_with fail
      refine (eqStep_self a1 l1 c1 cs a2 c2 x (k : Int) _ F18.out F28.out).mono ?_
      rintro e w9 ⟨rfl, hb9⟩
      have B9 : Hid (Below G w w9) := hG ▸ below_on (hG.symm ▸ B8.out : Below w.heap.size w w8) hb9
      clear hb9 B8 F18 F28
      go_wp2
      go_roundw
      case rel => exact ⟨j + 1, by omega, by go_num, B9⟩
      case measure => simp [intOf]; omega
    · obtain rfl : j = len := by omega
      go_wp2
      go_ret
      exact ⟨rfl, hBw⟩

end Go.Proofs.Yteomnjakcnfchaa
