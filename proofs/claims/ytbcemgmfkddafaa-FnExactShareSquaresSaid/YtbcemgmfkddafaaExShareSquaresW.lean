/-
  laws.FnExactShareSquares returns true for every arguments: impl.ShareSquares answers as spec.ShareSquares and leaves its arguments as they were. No condition.
-/
import Derived.Test.YtbcemgmfkddafaaGrp1
import Derived.Test.YtbcemgmfkddafaaGrp11
import Derived.Test.YtbcemgmfkddafaaGrp15
namespace Go.Proofs.Ytbcemgmfkddafaa.fnExactShareSquares
open Go.RowKit
set_option linter.unusedVariables false


set_option maxRecDepth 100000 in
set_option maxHeartbeats 2000000 in
/-- The law's walk: it returns true, and writes nothing that was there. -/
theorem walk (a0 : Option Addr) (len0 cap0 : Nat) (z0 : List Int) (a1 : Option Addr) (len1 cap1 : Nat) (z1 : List Int) (w : World) (w0 : IsRow .i64 w a0 len0 cap0 z0) (w1 : IsRow .i64 w a1 len1 cap1 z1) :
    Calls Try.prog 12 #[.slice a0 len0 cap0, .slice a1 len1 cap1] w fun e w' => e = .returned (.bool true) ∧ Below w.heap.size w w' := by
---
  by_cases hl0 : len0 ≤ 1048576
  case neg =>
    have hl' : (1048576 : Int) < (len0 : Int) := by omega
    clear w0 w1
    go_enter Try.func12, Try.ntmps12
    go_wp2
    all_goals
      go_ret
      exact ⟨rfl, Below.refl _ _⟩
  by_cases hl1 : len1 ≤ 1048576
  case neg =>
    have hl' : (1048576 : Int) < (len1 : Int) := by omega
    clear w0 w1
    go_enter Try.func12, Try.ntmps12
    go_wp2
    all_goals
      go_ret
      exact ⟨rfl, Below.refl _ _⟩
  have HI0 := w0.ints hl0
  obtain ⟨vs, hvs⟩ : ∃ zs, z0.take len0 = zs := ⟨_, rfl⟩
  rw [hvs] at HI0
  have H0 := Lib.hid HI0
  have he0 : eqB vs vs = true := eqB_self vs
  have HI1 := w1.ints hl1
  obtain ⟨gs, hgs⟩ : ∃ zs, z1.take len1 = zs := ⟨_, rfl⟩
  rw [hgs] at HI1
  have H1 := Lib.hid HI1
  have he1 : eqB gs gs = true := eqB_self gs
  clear HI0 hvs HI1 hgs w0 w1
  have B : Hid (Below w.heap.size w w) := Below.refl _ _
  obtain ⟨r, hr⟩ : ∃ r, sqR vs gs = r := ⟨_, rfl⟩
  have HR := Lib.hid hr
  clear hr
  have hne : (r != r) = false := by simp
  go_enter Try.func12, Try.ntmps12
  go_wp2_with fail
  refine (toIntS_any _ len0 _ vs _ H0.out).mono ?_
  rintro e w1x ⟨gS0, rfl, ho, hb⟩
  have H0 := Lib.hid (H0.out.below hb)
  have H1 := Lib.hid (H1.out.below hb)
  have S0 := Lib.hid (IsInts.of_owns ho (by omega))
  have B := Lib.hid (B.out.trans (hb.mono B.out.size))
  clear hb ho
  go_wp2_with fail
  refine (toIntS_any _ len1 _ gs _ H1.out).mono ?_
  rintro e w2x ⟨gS1, rfl, ho, hb⟩
  have H0 := Lib.hid (H0.out.below hb)
  have H1 := Lib.hid (H1.out.below hb)
  have S0 := Lib.hid (S0.out.below hb)
  have S1 := Lib.hid (IsInts.of_owns ho (by omega))
  have B := Lib.hid (B.out.trans (hb.mono B.out.size))
  clear hb ho
  go_wp2_with fail
  refine (specSq_as _ len0 _ vs _ len1 _ gs r _ S0.out S1.out HR.out).mono ?_
  rintro e w3x ⟨rfl, hb⟩
  have H0 := Lib.hid (H0.out.below hb)
  have H1 := Lib.hid (H1.out.below hb)
  have S0 := Lib.hid (S0.out.below hb)
  have S1 := Lib.hid (S1.out.below hb)
  have B := Lib.hid (B.out.trans (hb.mono B.out.size))
  clear hb
  clear S0 S1
  go_wp2_with fail
  refine (toIntS_any _ len0 _ vs _ H0.out).mono ?_
  rintro e w4x ⟨gX0, rfl, ho, hb⟩
  have H0 := Lib.hid (H0.out.below hb)
  have H1 := Lib.hid (H1.out.below hb)
  have X0 := Lib.hid (IsInts.of_owns ho (by omega))
  have B := Lib.hid (B.out.trans (hb.mono B.out.size))
  clear hb ho
  go_wp2_with fail
  refine (toIntS_any _ len1 _ gs _ H1.out).mono ?_
  rintro e w5x ⟨gX1, rfl, ho, hb⟩
  have H0 := Lib.hid (H0.out.below hb)
  have H1 := Lib.hid (H1.out.below hb)
  have X0 := Lib.hid (X0.out.below hb)
  have X1 := Lib.hid (IsInts.of_owns ho (by omega))
  have B := Lib.hid (B.out.trans (hb.mono B.out.size))
  clear hb ho
  go_wp2_with fail
  refine (implSq_as _ len0 _ vs _ len1 _ gs r _ X0.out X1.out HR.out).mono ?_
  rintro e w6x ⟨rfl, hb⟩
  have H0 := Lib.hid (H0.out.below hb)
  have H1 := Lib.hid (H1.out.below hb)
  have X0 := Lib.hid (X0.out.below hb)
  have X1 := Lib.hid (X1.out.below hb)
  have B := Lib.hid (B.out.trans (hb.mono B.out.size))
  clear hb
  go_wp2_with fail
  refine (toIntS_any _ len0 _ vs _ H0.out).mono ?_
  rintro e w7x ⟨gY0, rfl, ho, hb⟩
  have H0 := Lib.hid (H0.out.below hb)
  have H1 := Lib.hid (H1.out.below hb)
  have X0 := Lib.hid (X0.out.below hb)
  have X1 := Lib.hid (X1.out.below hb)
  have Y0 := Lib.hid (IsInts.of_owns ho (by omega))
  have B := Lib.hid (B.out.trans (hb.mono B.out.size))
  clear hb ho
  go_wp2_with fail
  refine (eqIntS_any _ _ _ vs _ _ _ vs _ X0.out Y0.out).mono ?_
  rintro e w8x ⟨rfl, hd⟩
  have hb := hd.below w7x.heap.size
  have H0 := Lib.hid (H0.out.below hb)
  have H1 := Lib.hid (H1.out.below hb)
  have X0 := Lib.hid (X0.out.below hb)
  have X1 := Lib.hid (X1.out.below hb)
  have Y0 := Lib.hid (Y0.out.below hb)
  have B := Lib.hid (B.out.trans (hb.mono B.out.size))
  clear hb hd
  clear Y0
  go_wp2_with fail
  refine (toIntS_any _ len1 _ gs _ H1.out).mono ?_
  rintro e w9x ⟨gY1, rfl, ho, hb⟩
  have H0 := Lib.hid (H0.out.below hb)
  have H1 := Lib.hid (H1.out.below hb)
  have X0 := Lib.hid (X0.out.below hb)
  have X1 := Lib.hid (X1.out.below hb)
  have Y1 := Lib.hid (IsInts.of_owns ho (by omega))
  have B := Lib.hid (B.out.trans (hb.mono B.out.size))
  clear hb ho
  go_wp2_with fail
  refine (eqIntS_any _ _ _ gs _ _ _ gs _ X1.out Y1.out).mono ?_
  rintro e w10x ⟨rfl, hd⟩
  have hb := hd.below w9x.heap.size
  have H0 := Lib.hid (H0.out.below hb)
  have H1 := Lib.hid (H1.out.below hb)
  have X0 := Lib.hid (X0.out.below hb)
  have X1 := Lib.hid (X1.out.below hb)
  have Y1 := Lib.hid (Y1.out.below hb)
  have B := Lib.hid (B.out.trans (hb.mono B.out.size))
  clear hb hd
  clear Y1
  go_wp2
  go_ret
  exact ⟨rfl, B.out⟩

end Go.Proofs.Ytbcemgmfkddafaa.fnExactShareSquares
