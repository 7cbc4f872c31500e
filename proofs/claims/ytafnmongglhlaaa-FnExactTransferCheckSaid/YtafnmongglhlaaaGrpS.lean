/-
  The exact laws' own functions over fractions and steps: comparison of what is equal. They write into no memory that was there.
  The statements' own sameFracs, sameSteps of equal rows, and fracSum. They write into no memory that was there.
  What the walks over the sums and the winners of a run ask besides. Of no function.
  hasInt: whether a list has a number. No condition but what each theorem says.
-/
import Derived.Test.YtafnmongglhlaaaGrp14
import Derived.Test.YtafnmongglhlaaaGrpQ
import Derived.Test.YtafnmongglhlaaaGrpL
import Derived.Test.YtafnmongglhlaaaGrp16
import Derived.Test.YtafnmongglhlaaaGrpT
import Derived.Deep.RegionHeld3
import Derived.Test.YtafnmongglhlaaaGrp1
namespace Go.Proofs.Ytafnmongglhlaaa
open Go.RowKit

attribute [local go_sem] Oper.semAt_some

set_option maxRecDepth 100000 in
set_option maxHeartbeats 2000000 in
/-- **eqFracS** of equal rows. -/
theorem eqFracS_self (a : Option Addr) (len cap : Nat) (cs : List Fr) (b : Option Addr) (cap' : Nat) (w : World) (h : IsFr w a len cap cs) (h' : IsFr w b len cap' cs) :
    Calls Try.prog 100 #[.slice a len cap, .slice b len cap'] w fun e w' => e = .returned (.bool true) ∧ Below w.heap.size w w' := by
  obtain ⟨G, hG⟩ : ∃ G, w.heap.size = G := ⟨_, rfl⟩
  have H1 := Lib.hid h
  have H2 := Lib.hid h'
  have hlm := h.2.2.1
  have hnn : ((len : Int) != (len : Int)) = false := by simp
  clear h h'
  go_enter Try.func100, Try.ntmps100
  go_wp2
  go_loopw [5] (fun iv wr => ∃ j : Nat, j ≤ len ∧ iv = .int .i64 (j : Int) ∧ Hid (Below G w wr)) (fun iv _ => len - (intOf iv).toNat)
  case atStart => exact ⟨0, Nat.zero_le _, rfl, hG ▸ Below.refl _ _⟩
  case round =>
    obtain ⟨j, hj, rfl, hB⟩ := hrel
    have hBw : Below w.heap.size w wr := hG.symm ▸ hB.out
    by_cases hlt : j < len
    · obtain ⟨b1, o1, rfl, hl1, hc1⟩ := (H1.out.below hBw).2.2.2 (by omega)
      obtain ⟨b2, o2, rfl, hl2, hc2⟩ := (H2.out.below hBw).2.2.2 (by omega)
      obtain ⟨x, y, hxy⟩ : ∃ x y, fAt cs j = (x, y) := ⟨_, _, rfl⟩
      have k1 := (hc1 j hlt).1
      have k2 := (hc1 j hlt).2
      have k3 := (hc2 j hlt).1
      have k4 := (hc2 j hlt).2
      rw [hxy] at k1 k2 k3 k4
      have u1 : ∀ u : Beh wr, u.w.cell? ⟨b1, o1 + j * 2, none⟩ = _ := Beh.cell k1 hl1
      have u2 : ∀ u : Beh wr, u.w.cell? ⟨b1, o1 + j * 2 + 1, none⟩ = _ := Beh.cell k2 hl1
      have u3 : ∀ u : Beh wr, u.w.cell? ⟨b2, o2 + j * 2, none⟩ = _ := Beh.cell k3 hl2
      have u4 : ∀ u : Beh wr, u.w.cell? ⟨b2, o2 + j * 2 + 1, none⟩ = _ := Beh.cell k4 hl2
      have hji : (j : Int) < (len : Int) := by omega
      have HEQ : Hid (eqF x y x y = true) := by unfold Hid eqF; simp
      clear hc1 hc2 k1 k2 k3 k4 hxy
      go_wp2_with fail
      refine wp_region_below_tail 8 (by kernel_rfl) (by kernel_rfl) ?_
      simp only [List.take_succ_cons, List.take_zero, List.drop_succ_cons, List.drop_zero]
      repeat (go_big_quiet_step (fail))
      refine wpQuiet_nil ?_
      rintro w8 ⟨⟨_, hb8'⟩, he⟩
      have hb8 : Below wr.heap.size wr w8 := by rw [he]; exact hb8'
      have B8 : Hid (Below G w w8) := hG ▸ below_on hBw hb8
      clear he hb8' u1 u2 u3 u4 hb8 hBw hB
      go_wp2_with fail
      refine (eqFrac_as x y x y true _ HEQ.out).mono ?_
      rintro e w9 ⟨rfl, hb9⟩
      have B9 : Hid (Below G w w9) := hG ▸ below_on (hG.symm ▸ B8.out : Below w.heap.size w w8) hb9
      clear hb9 B8
      go_wp2
      go_roundw
      case rel => exact ⟨j + 1, by omega, by go_num, B9⟩
      case measure => simp [intOf]; omega
    · obtain rfl : j = len := by omega
      go_wp2
      go_ret
      exact ⟨rfl, hBw⟩

set_option maxRecDepth 100000 in
set_option maxHeartbeats 2000000 in
/-- **eqStep** of equal steps. -/
theorem eqStep_self (a : Option Addr) (len cap : Nat) (cs : List Fr) (b : Option Addr) (cap' : Nat) (x k : Int) (w : World) (h : IsFr w a len cap cs) (h' : IsFr w b len cap' cs) :
    Calls Try.prog 67 #[.agg #[.slice a len cap, .int .i64 x, .int .i64 k], .agg #[.slice b len cap', .int .i64 x, .int .i64 k]] w fun e w' => e = .returned (.bool true) ∧ Below w.heap.size w w' := by
  obtain ⟨w1, hw1⟩ : ∃ w1, w.alloc (.cells #[.slice a len cap, .int .i64 x, .int .i64 k] 35) = w1 := ⟨_, rfl⟩
  obtain ⟨w2, hw2⟩ : ∃ w2, w1.alloc (.cells #[.slice b len cap', .int .i64 x, .int .i64 k] 35) = w2 := ⟨_, rfl⟩
  have b1 : Below w.heap.size w w1 := by rw [← hw1]; exact (Below.refl _ _).alloc (Nat.le_refl _) _
  have b12 : Below w1.heap.size w1 w2 := by rw [← hw2]; exact (Below.refl _ _).alloc (Nat.le_refl _) _
  have hsz : w.heap.size < w1.heap.size := by rw [← hw1]; simp
  have hsz2 : w1.heap.size < w2.heap.size := by rw [← hw2]; simp
  have s0 : w2.cell? ⟨w.heap.size, 0, none⟩ = some (.slice a len cap) := (b12.cell (p := ⟨w.heap.size, 0, none⟩) hsz).trans (by rw [← hw1]; exact World.cell?_alloc_new w _ _ 0)
  have s1 : w2.cell? ⟨w.heap.size, 1, none⟩ = some (.int .i64 x) := (b12.cell (p := ⟨w.heap.size, 1, none⟩) hsz).trans (by rw [← hw1]; exact World.cell?_alloc_new w _ _ 1)
  have s2 : w2.cell? ⟨w.heap.size, 2, none⟩ = some (.int .i64 k) := (b12.cell (p := ⟨w.heap.size, 2, none⟩) hsz).trans (by rw [← hw1]; exact World.cell?_alloc_new w _ _ 2)
  have t0 : w2.cell? ⟨w1.heap.size, 0, none⟩ = some (.slice b len cap') := by rw [← hw2]; exact World.cell?_alloc_new w1 _ _ 0
  have t1 : w2.cell? ⟨w1.heap.size, 1, none⟩ = some (.int .i64 x) := by rw [← hw2]; exact World.cell?_alloc_new w1 _ _ 1
  have t2 : w2.cell? ⟨w1.heap.size, 2, none⟩ = some (.int .i64 k) := by rw [← hw2]; exact World.cell?_alloc_new w1 _ _ 2
  have B2 := Lib.hid (below_on b1 b12)
  have H1 := Lib.hid (h.below B2.out)
  have H2 := Lib.hid (h'.below B2.out)
  have hxx : (x != x) = false := by simp
  have hkk : (k != k) = false := by simp
  clear h h' b1 b12
  go_enter Try.func67, Try.ntmps67
  go_wp2_with (go_at_call 100; refine (eqFracS_self a len cap cs b cap' _ H1.out H2.out).mono ?_; rintro e w3 ⟨rfl, hb3⟩; have s1' : w3.cell? ⟨w.heap.size, 1, none⟩ = some (.int .i64 x) := (hb3.cell (p := ⟨w.heap.size, 1, none⟩) (by show w.heap.size < w2.heap.size; omega)).trans s1; have s2' : w3.cell? ⟨w.heap.size, 2, none⟩ = some (.int .i64 k) := (hb3.cell (p := ⟨w.heap.size, 2, none⟩) (by show w.heap.size < w2.heap.size; omega)).trans s2; have t1' : w3.cell? ⟨w1.heap.size, 1, none⟩ = some (.int .i64 x) := (hb3.cell (p := ⟨w1.heap.size, 1, none⟩) hsz2).trans t1; have t2' : w3.cell? ⟨w1.heap.size, 2, none⟩ = some (.int .i64 k) := (hb3.cell (p := ⟨w1.heap.size, 2, none⟩) hsz2).trans t2; have B3 := Lib.hid (below_on B2.out hb3); clear hb3)
  go_ret
  exact ⟨rfl, B3.out⟩

set_option maxRecDepth 100000 in
set_option maxHeartbeats 2000000 in
/-- **eqStepS** of equal rows of steps, each of n counts. -/
theorem eqStepS_self (a : Option Addr) (len cap : Nat) (ss : List TfStp) (b : Option Addr) (cap' : Nat) (w : World) (h : IsSt w a len cap ss) (h' : IsSt w b len cap' ss) :
    Calls Try.prog 38 #[.slice a len cap, .slice b len cap'] w fun e w' => e = .returned (.bool true) ∧ Below w.heap.size w w' := by
  obtain ⟨G, hG⟩ : ∃ G, w.heap.size = G := ⟨_, rfl⟩
  have H1 := Lib.hid h
  have H2 := Lib.hid h'
  have hlm := h.2.2.1
  have hsl := h.1
  have hnn : ((len : Int) != (len : Int)) = false := by simp
  clear h h'
  go_enter Try.func38, Try.ntmps38
  go_wp2
  go_loopw [5] (fun iv wr => ∃ j : Nat, j ≤ len ∧ iv = .int .i64 (j : Int) ∧ Hid (Below G w wr)) (fun iv _ => len - (intOf iv).toNat)
  case atStart => exact ⟨0, Nat.zero_le _, rfl, hG ▸ Below.refl _ _⟩
  case round =>
    obtain ⟨j, hj, rfl, hB⟩ := hrel
    have hBw : Below w.heap.size w wr := hG.symm ▸ hB.out
    by_cases hlt : j < len
    · obtain ⟨⟨cs, x, k⟩, hst⟩ : ∃ st, ss[j]? = some st := ⟨_, List.getElem?_eq_getElem (by omega)⟩
      obtain ⟨b1, o1, a1, l1, c1, rfl, hl1, k0, k1, k2, f1⟩ := (H1.out.below hBw).at hst
      obtain ⟨b2, o2, a2, l2, c2, rfl, hl2, m0, m1, m2, f2⟩ := (H2.out.below hBw).at hst
      have k1 : wr.cell? ⟨b1, o1 + j * 3 + 1, none⟩ = some (.int .i64 x) := k1
      have k2 : wr.cell? ⟨b1, o1 + j * 3 + 2, none⟩ = some (.int .i64 (k : Int)) := k2
      have m1 : wr.cell? ⟨b2, o2 + j * 3 + 1, none⟩ = some (.int .i64 x) := m1
      have m2 : wr.cell? ⟨b2, o2 + j * 3 + 2, none⟩ = some (.int .i64 (k : Int)) := m2
      have e12 : l1 = l2 := f1.1.symm.trans f2.1
      subst e12
      have u0 : ∀ u : Beh wr, u.w.cell? ⟨b1, o1 + j * 3, none⟩ = _ := Beh.cell k0 hl1
      have u1 : ∀ u : Beh wr, u.w.cell? ⟨b1, o1 + j * 3 + 1, none⟩ = _ := Beh.cell k1 hl1
      have u2 : ∀ u : Beh wr, u.w.cell? ⟨b1, o1 + j * 3 + 2, none⟩ = _ := Beh.cell k2 hl1
      have u3 : ∀ u : Beh wr, u.w.cell? ⟨b2, o2 + j * 3, none⟩ = _ := Beh.cell m0 hl2
      have u4 : ∀ u : Beh wr, u.w.cell? ⟨b2, o2 + j * 3 + 1, none⟩ = _ := Beh.cell m1 hl2
      have u5 : ∀ u : Beh wr, u.w.cell? ⟨b2, o2 + j * 3 + 2, none⟩ = _ := Beh.cell m2 hl2
      have hji : (j : Int) < (len : Int) := by omega
      have F1 := Lib.hid f1
      have F2 := Lib.hid f2
      clear k0 k1 k2 m0 m1 m2 f1 f2 hst
      go_wp2_with fail
      refine wp_region_below_tail 8 (by kernel_rfl) (by kernel_rfl) ?_
      simp only [List.take_succ_cons, List.take_zero, List.drop_succ_cons, List.drop_zero]
      repeat (go_big_quiet_step (fail))
      refine wpQuiet_nil ?_
      rintro w8 ⟨⟨_, hb8'⟩, he⟩
      have hb8 : Below wr.heap.size wr w8 := by rw [he]; exact hb8'
      have B8 : Hid (Below G w w8) := hG ▸ below_on hBw hb8
      have F18 := Lib.hid (F1.out.below hb8)
      have F28 := Lib.hid (F2.out.below hb8)
      clear he hb8' u0 u1 u2 u3 u4 u5 hb8 hBw hB F1 F2
      go_wp2_with fail
      refine (eqStep_self a1 l1 c1 cs a2 c2 x (k : Int) _ F18.out F28.out).mono ?_
      rintro e w9 ⟨rfl, hb9⟩
      have B9 : Hid (Below G w w9) := hG ▸ below_on (hG.symm ▸ B8.out : Below w.heap.size w w8) hb9
      clear hb9 B8 F18 F28
      go_wp2
      go_roundw
      case rel => exact ⟨j + 1, by omega, by go_num, B9⟩
      case measure => simp [intOf]; omega
    · obtain rfl : j = len := by omega
      go_wp2
      go_ret
      exact ⟨rfl, hBw⟩

end Go.Proofs.Ytafnmongglhlaaa

namespace Go.Proofs.Ytafnmongglhlaaa
open Go.RowKit

attribute [local go_sem] Oper.semAt_some

theorem quiet_dr9 {P : Program} {f : FuncId} {args : Array Value} {w : World} {n : Nat} {v : Value}
    (h : Calls P f args (w.drewN n) fun e w' => e = .returned v ∧ Dr (w.drewN n) w') : Calls P f args (w.drewN n) fun e w'' => e = .returned v ∧ ∃ m, w'' = w.drewN m :=
  h.mono fun _ _ ⟨he, q, hq⟩ => ⟨he, n + q, by rw [hq]; simp⟩

set_option maxRecDepth 100000 in
set_option maxHeartbeats 2000000 in
/-- **sameFracs** of equal rows. -/
theorem sameFracs_self (a : Option Addr) (len cap : Nat) (cs : List Fr) (b : Option Addr) (cap' : Nat) (w : World) (h : IsFr w a len cap cs) (h' : IsFr w b len cap' cs) :
    Calls Try.prog 50 #[.slice a len cap, .slice b len cap'] w fun e w' => e = .returned (.bool true) ∧ Dr w w' := by
  have H1 := Lib.hid h
  have H2 := Lib.hid h'
  have hlm := h.2.2.1
  have hnn : ((len : Int) != (len : Int)) = false := by simp
  have hgd := run_guardF
  clear h h'
  go_enter Try.func50, Try.ntmps50
  go_wp2
  go_loopw [5] (fun iv wr => ∃ j : Nat, j ≤ len ∧ iv = .int .i64 (j : Int) ∧ Dr w wr) (fun iv _ => len - (intOf iv).toNat)
  case atStart => exact ⟨0, Nat.zero_le _, rfl, Dr.refl _⟩
  case round =>
    obtain ⟨j, hj, rfl, hd⟩ := hrel
    by_cases hlt : j < len
    · obtain ⟨b1, o1, rfl, hl1, hc1⟩ := (H1.out.below (hd.below _)).2.2.2 (by omega)
      obtain ⟨b2, o2, rfl, hl2, hc2⟩ := (H2.out.below (hd.below _)).2.2.2 (by omega)
      obtain ⟨x, y, hxy⟩ : ∃ x y, fAt cs j = (x, y) := ⟨_, _, rfl⟩
      have k1 := (hc1 j hlt).1
      have k2 := (hc1 j hlt).2
      have k3 := (hc2 j hlt).1
      have k4 := (hc2 j hlt).2
      rw [hxy] at k1 k2 k3 k4
      have hq1 := run_neqF x y x y false (by rw [eqF_self]; rfl)
      have hji : (j : Int) < (len : Int) := by omega
      clear hc1 hc2 hxy
      go_wp2_with fail
      go_quiet (fail)
      go_wp2
      go_roundw
      case rel => exact ⟨j + 1, by omega, by go_num, hd.drewN _⟩
      case measure => simp [intOf]; omega
    · obtain rfl : j = len := by omega
      go_wp2
      go_ret
      exact ⟨rfl, hd⟩

set_option maxRecDepth 100000 in
set_option maxHeartbeats 4000000 in
/-- **sameSteps** of equal rows of steps. -/
theorem sameSteps_self (a : Option Addr) (len cap : Nat) (ss : List TfStp) (b : Option Addr) (cap' : Nat) (w : World) (h : IsSt w a len cap ss) (h' : IsSt w b len cap' ss) :
    Calls Try.prog 16 #[.slice a len cap, .slice b len cap'] w fun e w' => e = .returned (.bool true) ∧ Dr w w' := by
  have H1 := Lib.hid h
  have H2 := Lib.hid h'
  have hlm := h.2.2.1
  have hsl := h.1
  have hnn : ((len : Int) != (len : Int)) = false := by simp
  clear h h'
  go_enter Try.func16, Try.ntmps16
  go_wp2
  go_loopw [5] (fun iv wr => ∃ j : Nat, j ≤ len ∧ iv = .int .i64 (j : Int) ∧ Dr w wr) (fun iv _ => len - (intOf iv).toNat)
  case atStart => exact ⟨0, Nat.zero_le _, rfl, Dr.refl _⟩
  case round =>
    obtain ⟨j, hj, rfl, hd⟩ := hrel
    by_cases hlt : j < len
    · obtain ⟨⟨cs, x, k⟩, hst⟩ : ∃ st, ss[j]? = some st := ⟨_, List.getElem?_eq_getElem (by omega)⟩
      obtain ⟨b1, o1, a1, l1, c1, rfl, hl1, k0, k1, k2, f1⟩ := (H1.out.below (hd.below _)).at hst
      obtain ⟨b2, o2, a2, l2, c2, rfl, hl2, m0, m1, m2, f2⟩ := (H2.out.below (hd.below _)).at hst
      have k1 : wr.cell? ⟨b1, o1 + j * 3 + 1, none⟩ = some (.int .i64 x) := k1
      have k2 : wr.cell? ⟨b1, o1 + j * 3 + 2, none⟩ = some (.int .i64 (k : Int)) := k2
      have m1 : wr.cell? ⟨b2, o2 + j * 3 + 1, none⟩ = some (.int .i64 x) := m1
      have m2 : wr.cell? ⟨b2, o2 + j * 3 + 2, none⟩ = some (.int .i64 (k : Int)) := m2
      have e12 : l1 = l2 := f1.1.symm.trans f2.1
      subst e12
      have hji : (j : Int) < (len : Int) := by omega
      have hxx : (x != x) = false := by simp
      have hkk : ((k : Int) != (k : Int)) = false := by simp
      have F1 := Lib.hid f1
      have F2 := Lib.hid f2
      clear f1 f2 hst
      go_wp2_with fail
      go_quiet (first | (go_at_call 50; exact quiet_dr9 (sameFracs_self a1 l1 c1 cs a2 c2 _ (F1.out.below (below_drewN _ _ _)) (F2.out.below (below_drewN _ _ _)))))
      go_wp2
      go_roundw
      case rel => exact ⟨j + 1, by omega, by go_num, hd.drewN _⟩
      case measure => simp [intOf]; omega
    · obtain rfl : j = len := by omega
      go_wp2
      go_ret
      exact ⟨rfl, hd⟩

theorem Two.put {w : World} {g : Nat} {u v : Int} (h : Two w g u v) (x y : Int) : Two ((w.setCell ⟨g, 0, none⟩ (.int .i64 x)).setCell ⟨g, 1, none⟩ (.int .i64 y)) g x y :=
  ⟨by simpa [World.setCell] using h.lt, by rw [World.cell?_setCell_other _ _ _ _ (by intro e; injection e with _ e2; exact absurd e2 (by decide))]; exact h.set0 _, h.set1 _ _, by simpa using h.f0, by simpa using h.f1⟩
theorem Two.off {w : World} {g g' : Nat} {u v : Int} (h : Two w g u v) (hne : g' ≠ g) (a b : Value) : Two ((w.setCell ⟨g', 0, none⟩ a).setCell ⟨g', 1, none⟩ b) g u v :=
  ⟨by simpa [World.setCell] using h.lt, by rw [World.cell?_setCell_other _ _ _ _ (by intro e; injection e with e; exact hne e), World.cell?_setCell_other _ _ _ _ (by intro e; injection e with e; exact hne e)]; exact h.c0, by rw [World.cell?_setCell_other _ _ _ _ (by intro e; injection e with e; exact hne e), World.cell?_setCell_other _ _ _ _ (by intro e; injection e with e; exact hne e)]; exact h.c1, by simpa using h.f0, by simpa using h.f1⟩

set_option maxRecDepth 100000 in
set_option maxHeartbeats 8000000 in
/-- **fracSum**, where each sum fits. -/
theorem fracSum_as (a : Option Addr) (len cap : Nat) (cs : List Fr) (x y : Int) (w : World) (h : IsFr w a len cap cs) (hok : ∀ k, k < len → addOk (fsF (cs.take k)) (fAt cs k) = true) (hr : fsF cs = (x, y)) :
    Calls Try.prog 21 #[.slice a len cap] w fun e w' => e = .returned (.agg #[.int .i64 x, .int .i64 y]) ∧ Below w.heap.size w w' := by
  have H := Lib.hid h
  have HO := Lib.hid hok
  have HR := Lib.hid hr
  have HL := Lib.hid h.1
  have hlm := h.2.2.1
  have T0 := Lib.hid ((Two.new w 0 0 40).alloc (.cells #[.int .i64 0, .int .i64 1] 40))
  have T1 := Lib.hid ((Two.new (w.alloc (.cells #[.int .i64 0, .int .i64 0] 40)) 0 1 40).at (g' := w.heap.size + 1) (by simp))
  have B0 := Lib.hid (below_more (below_more (Below.refl w.heap.size w) (.cells #[.int .i64 0, .int .i64 0] 40)) (.cells #[.int .i64 0, .int .i64 1] 40))
  clear h hok hr
  go_enter Try.func21, Try.ntmps21
  go_wp2
  generalize hwA : (w.alloc (.cells #[.int .i64 0, .int .i64 0] 40)).alloc (.cells #[.int .i64 0, .int .i64 1] 40) = wA at *
  clear hwA
  go_loopw [4] (fun iv wr => ∃ (k : Nat) (u v : Int), k ≤ len ∧ iv = .int .i64 (k : Int) ∧ Hid (fsF (cs.take k) = (u, v)) ∧ Hid (Two wr w.heap.size 0 0) ∧ Hid (Two wr (w.heap.size + 1) u v) ∧ Hid (Below w.heap.size w wr)) (fun iv _ => len - (intOf iv).toNat)
  case atStart => exact ⟨0, 0, 1, Nat.zero_le _, rfl, rfl, T0.out, T1.out, B0.out⟩
  case round =>
    clear T0 T1 B0
    obtain ⟨k, u, v, hk, rfl, hF, hA0, hT, hB⟩ := hrel
    by_cases hlt : k < len
    · obtain ⟨fb, fo, rfl, hfb, c0, c1⟩ := (H.out.below hB.out).at hlt
      have hfbw : fb < w.heap.size := by
        obtain ⟨b', o', e, hb', -⟩ := H.out.2.2.2 (by omega)
        injection e with e
        injection e with e
        omega
      obtain ⟨p, q, hpq⟩ : ∃ p q, fAt cs k = (p, q) := ⟨_, _, rfl⟩
      rw [hpq] at c0 c1
      have hok := HO.out k hlt
      rw [hF.out, hpq] at hok
      obtain ⟨x1, y1, hxy⟩ : ∃ x1 y1, addR (u, v) (p, q) = (x1, y1) := ⟨_, _, rfl⟩
      have HOK := Lib.hid hok
      have HXY := Lib.hid hxy
      have HF2 : Hid (fsF (cs.take (k + 1)) = (x1, y1)) := by
        rw [Hid, fsF_take (by rw [HL.out]; exact hlt), hF.out, hpq, fsStep, if_pos hok]; exact hxy
      obtain ⟨lt1, t0, t1, tf0, tf1⟩ := hT.out
      have hki : (k : Int) < (len : Int) := by omega
      clear hpq hok hxy
      go_wp2_with fail
      go_cut [5, 6] from 14 to 23 (fun s5 s6 wx => MadeB wr x1 y1 true s5 s6 wx)
      case first =>
        have q0 := World.new_ne wr ⟨w.heap.size + 1, 0, none⟩ t0
        have q1 := World.new_ne wr ⟨w.heap.size + 1, 1, none⟩ t1
        have q2 := World.new_ne wr ⟨fb, fo + k * 2, none⟩ c0
        have q3 := World.new_ne wr ⟨fb, fo + k * 2 + 1, none⟩ c1
        go_region_held3 (fun w' => w'.cell? ⟨w.heap.size + 1, 0, none⟩ = some (.int .i64 u) ∧ w'.cell? ⟨w.heap.size + 1, 1, none⟩ = some (.int .i64 v) ∧ w'.cell? ⟨fb, fo + k * 2, none⟩ = some (.int .i64 p) ∧ w'.cell? ⟨fb, fo + k * 2 + 1, none⟩ = some (.int .i64 q)) (go_keep)
          (first | (go_at_call 23; refine (implFracAdd_as u v p q x1 y1 true _ HXY.out HOK.out).mono ?_; rintro e w3 ⟨rfl, hb0⟩; (first | have hb9 := below_drew hb0 | have hb9 := hb0); (first | (have N3 := Lib.hid ((Two.new wr 0 0 40).below hb9); have C3 := Lib.hid (below_on (below_more (Below.refl _ wr) (.cells #[.int .i64 0, .int .i64 0] 40)) hb9); obtain ⟨ln3, n3, m3, g3, h3⟩ := N3.out; clear hb9 hb0) | (have C3 := Lib.hid (below_on (Below.refl _ wr) hb9); clear hb9 hb0)); have s0 := (C3.out.cell (p := ⟨w.heap.size + 1, 0, none⟩) lt1).trans t0; have s1 := (C3.out.cell (p := ⟨w.heap.size + 1, 1, none⟩) lt1).trans t1; have s2 := (C3.out.cell (p := ⟨fb, fo + k * 2, none⟩) hfb).trans c0; have s3 := (C3.out.cell (p := ⟨fb, fo + k * 2 + 1, none⟩) hfb).trans c1; have q4 := World.new_ne w3 ⟨w.heap.size + 1, 0, none⟩ s0; have q5 := World.new_ne w3 ⟨w.heap.size + 1, 1, none⟩ s1; have q6 := World.new_ne w3 ⟨fb, fo + k * 2, none⟩ s2; have q7 := World.new_ne w3 ⟨fb, fo + k * 2 + 1, none⟩ s3))
        all_goals
          have hs1 := C3.out.size
          go_wp2_with fail
          go_meet
          first
            | exact made_new C3.out
            | exact made_old N3.out C3.out (by omega)
      case rest =>
        obtain ⟨pp, rfl, rfl, hP, hBx⟩ := hcut
        have TA := Lib.hid (hA0.out.below hBx)
        have TT := Lib.hid (hT.out.below hBx)
        have BB := Lib.hid (below_on hB.out hBx)
        obtain ⟨lp, p0, p9, -, -⟩ := hP
        obtain ⟨lr, r0, r9, g0, g9⟩ := TT.out
        rename World => wx
        have T9 : Hid (Two ((wx.setCell ⟨w.heap.size + 1, 0, none⟩ (.int .i64 x1)).setCell ⟨w.heap.size + 1, 1, none⟩ (.int .i64 y1)) (w.heap.size + 1) x1 y1) := TT.out.put x1 y1
        have A9 : Hid (Two ((wx.setCell ⟨w.heap.size + 1, 0, none⟩ (.int .i64 x1)).setCell ⟨w.heap.size + 1, 1, none⟩ (.int .i64 y1)) w.heap.size 0 0) := TA.out.off (by omega) _ _
        have B9 : Hid (Below w.heap.size w ((wx.setCell ⟨w.heap.size + 1, 0, none⟩ (.int .i64 x1)).setCell ⟨w.heap.size + 1, 1, none⟩ (.int .i64 y1))) := below_set2 BB.out (by omega) _ _
        clear hBx hA0 hT hB c0 c1 t0 t1 tf0 tf1
        go_wp2
        go_roundw
        case rel => exact ⟨k + 1, x1, y1, by omega, by go_num, HF2, A9, T9, B9⟩
        case measure => simp [intOf]; omega
    · obtain rfl : k = len := by omega
      have hxy : (u, v) = (x, y) := by rw [← hF.out, ← HR.out, List.take_of_length_le (by rw [HL.out]; exact Nat.le_refl _)]
      obtain ⟨rfl, rfl⟩ := Prod.ext_iff.1 hxy
      obtain ⟨lt1, t0, t1, -, -⟩ := hT.out
      obtain ⟨lr, r0, r9, g0, g9⟩ := hA0.out
      have k0 := Two.set0 hA0.out (.int .i64 u)
      have k9 := Two.set1 hA0.out (.int .i64 u) (.int .i64 v)
      go_wp2
      refine bodyPost_ret (v := .agg #[.int .i64 u, .int .i64 v]) (by simp [results, Try.results21, go_sem, k0, k9]) rfl ?_
      exact ⟨rfl, below_set2 hB.out (Nat.le_refl _) _ _⟩

end Go.Proofs.Ytafnmongglhlaaa

namespace Go.Proofs.Ytafnmongglhlaaa
open Go.RowKit

theorem fits_mem {ps : List Pl} {n : Int} (h : fitsB ps n = true) : ∀ i, i < ps.length → ∀ z ∈ parseL (tAt ps i), 0 ≤ z ∧ z < n :=
  fun i hi => (vB_mem ((fits_parts h).2.2.2 i hi)).2.2
theorem fs_add {D : Int} (hD : 1 ≤ D ∧ D ≤ 60) {cs : List Fr} (h : ∀ k, k < cs.length → TfOkC D 60 (fAt cs k)) (h5 : cs.length ≤ 5) (k : Nat) (hk : k < cs.length) : addOk (fsF (cs.take k)) (fAt cs k) = true := by
  obtain ⟨ih1, _⟩ := fs_ok hD h h5 k (by omega)
  have hc := h k hk
  obtain ⟨a1, _⟩ := okc_add ih1 hc
  exact (addOk_iff _ _).2 ⟨okc_wide ih1 hD (by omega), okc_wide hc hD (by omega), okc_wide a1 hD (by omega)⟩
theorem fs_step {ps : List Pl} {lots : List Int} {q : Int} {S : TfS} (A : TfArg ps lots q) (h : TfGood ps lots S) (hs : 1 ≤ S.s) : ∀ k, k < lots.length → addOk (fsF ((S.cs ps).take k)) (fAt (S.cs ps) k) = true := by
  have hlen : (S.cs ps).length = lots.length := by rw [cs_length, h.lg]
  have h5 := (lotsB_len A.lots).2
  obtain ⟨D, hD, _, hw, hc⟩ := h.cnt A hs
  have hcs : ∀ k, k < (S.cs ps).length → TfOkC D 60 (fAt (S.cs ps) k) := fun k hk => by
    have e : fAt (S.cs ps) k = tfCnt ps S.ws S.gs k ps.length := by
      rw [← tfC_nat, tfC_at (by omega) (by rw [h.lg]; omega), Int.toNat_natCast]
    rw [e]
    obtain ⟨g1, g2⟩ := hc k ps.length (Nat.le_refl _)
    refine ⟨g1.red, g1.dvd, g1.low, ?_⟩
    have := g1.high
    have := Int.mul_le_mul_of_nonneg_right g2 (Int.le_of_lt g1.pos)
    omega
  exact fun k hk => fs_add hD hcs (by omega) k (by omega)
theorem fs_run {ps : List Pl} {lots : List Int} {q : Int} (A : TfArg ps lots q) (f : Nat) (S : TfS) (h : TfGood ps lots S) : ∀ t ∈ tfRun ps lots q f S, ∀ k, k < lots.length → addOk (fsF (t.1.take k)) (fAt t.1 k) = true := by
  intro t ht
  obtain ⟨i, hi, rfl⟩ := List.mem_iff_getElem.1 ht
  obtain ⟨a, b, c⟩ := tf_at A f S h i hi
  have e : (tfRun ps lots q f S)[i] = tfStep ps lots q (tfAt ps lots q S i) := by
    rw [List.getElem?_eq_getElem hi] at a
    injection a
  rw [e]
  exact fs_step A b c

end Go.Proofs.Ytafnmongglhlaaa

namespace Go.Proofs.Ytafnmongglhlaaa
open Go.RowKit

set_option maxHeartbeats 400000 in
/-- **hasInt**. -/
theorem hasInt_any (a : Option Addr) (len cap : Nat) (zs : List Int) (c : Int) (w : World) (h : IsInts w a len cap zs) :
    Calls Try.prog 18 #[.slice a len cap, .int .i64 c] w fun e w' => e = .returned (.bool (hasB zs c)) ∧ w = w' := by
  obtain ⟨h1, h2, h3, h4⟩ := h
  have H1 := Lib.hid h1; clear h1
  have H4 := Lib.hid h4; clear h4
  go_enter Try.func18, Try.ntmps18
  go_wp2
  go_loop [5] (fun i => ∃ k : Nat, k ≤ len ∧ i = .int .i64 k ∧ Hid (hasB (zs.take k) c = false)) (fun i => len - (intOf i).toNat)
  case atStart => exact ⟨0, Nat.zero_le _, rfl, by simp [Hid, hasB]⟩
  case round =>
    obtain ⟨k, hk, rfl, hc⟩ := hrel
    by_cases hlt : k < len
    · obtain ⟨b, off, rfl, hb, hcell⟩ := H4.out (by omega)
      have hck := hcell k hlt
      have HC := hasB_snoc zs k c (by rw [H1.out]; exact hlt)
      rw [hc.out, Bool.false_or] at HC
      have HC' := Lib.hid HC
      clear HC hcell
      by_cases heq : (zs[k]?.getD 0 == c) = true
      · go_wp2
        go_ret
        refine ⟨ret_bool ?_, rfl⟩
        have h5 := HC'.out
        rw [heq] at h5
        simp only [hasB, List.contains_iff_mem] at h5
        have h6 : c ∈ zs := List.mem_of_mem_take h5
        simp [hasB, h6]
      · have heq' : (zs[k]?.getD 0 == c) = false := by simpa using heq
        clear heq
        go_wp2
        go_round
        case rel => exact ⟨k + 1, by omega, by go_num, by unfold Hid; rw [HC'.out, heq']⟩
        case measure => simp [intOf]; omega
    · go_wp2
      go_ret
      refine ⟨ret_bool ?_, rfl⟩
      have h5 := hc.out
      rw [List.take_of_length_le (by rw [H1.out]; omega)] at h5
      exact h5.symm

/-- **hasInt**, its answer named. -/
theorem hasInt_as (a : Option Addr) (len cap : Nat) (zs : List Int) (c : Int) (v : Bool) (w : World) (h : IsInts w a len cap zs) (hv : hasB zs c = v) :
    Calls Try.prog 18 #[.slice a len cap, .int .i64 c] w fun e w' => e = .returned (.bool v) ∧ w = w' := by
  subst hv; exact hasInt_any a len cap zs c w h

end Go.Proofs.Ytafnmongglhlaaa
