/-
  laws.FnExactSeatsQuota returns true for every arguments: impl.SeatsQuota answers as spec.SeatsQuota and leaves its argument as it was. No condition.
-/
import Derived.Test.YtmbhcgdapglbgaaGrp1
import Derived.Test.YtmbhcgdapglbgaaRemQ
import Derived.Test.YtmbhcgdapglbgaaGrp16
import Derived.Test.YtmbhcgdapglbgaaGrp13
namespace Go.Proofs.Ytmbhcgdapglbgaa.fnExactSeatsQuota
open Go.RowKit
set_option linter.unusedVariables false


set_option maxRecDepth 100000 in
set_option maxHeartbeats 2000000 in
/-- The law's walk: it returns true, and writes nothing that was there. -/
theorem walk (a0 : Option Addr) (len0 cap0 : Nat) (z0 : List Int) (a1 : Int) (a2 : Int) (w : World) (w0 : IsRow .i64 w a0 len0 cap0 z0) (w1 : (Lit.int .i64 a1).wf = true) (w2 : (Lit.int .i64 a2).wf = true) :
    Calls Try.prog 11 #[.slice a0 len0 cap0, .int .i64 a1, .int .i64 a2] w fun e w' => e = .returned (.bool true) ∧ Below w.heap.size w w' := by
---
  by_cases hl0 : len0 ≤ 1048576
  case neg =>
    have hl' : (1048576 : Int) < (len0 : Int) := by omega
    clear w0 w1 w2
    go_enter Try.func11, Try.ntmps11
    go_wp2
    all_goals
      go_ret
      exact ⟨rfl, Below.refl _ _⟩
  have HI0 := w0.ints hl0
  obtain ⟨vs, hvs⟩ : ∃ zs, z0.take len0 = zs := ⟨_, rfl⟩
  rw [hvs] at HI0
  have H0 := Lib.hid HI0
  have he0 : eqB vs vs = true := eqB_self vs
  clear HI0 hvs w0 w1 w2
  have B : Hid (Below w.heap.size w w) := Below.refl _ _
  obtain ⟨r, hr⟩ : ∃ r, loR vs a1 a2 = r := ⟨_, rfl⟩
  obtain ⟨u, hu⟩ : ∃ u, hiR vs a1 a2 = u := ⟨_, rfl⟩
  have HR := Lib.hid hr
  have HU := Lib.hid hu
  clear hr hu
  have hne : (r != r) = false := by simp
  have hne2 : (u != u) = false := by simp
  go_enter Try.func11, Try.ntmps11
  go_wp2_with fail
  refine (toIntS_any _ len0 _ vs _ H0.out).mono ?_
  rintro e w1x ⟨gS0, rfl, ho, hb⟩
  have H0 := Lib.hid (H0.out.below hb)
  have S0 := Lib.hid (IsInts.of_owns ho (by omega))
  have B := Lib.hid (B.out.trans (hb.mono B.out.size))
  clear hb ho
  go_wp2_with fail
  refine (specQuo_as _ len0 _ vs a1 a2 r u _ S0.out HR.out HU.out).mono ?_
  rintro e w2x ⟨rfl, hd⟩
  have hb := hd.below w1x.heap.size
  have H0 := Lib.hid (H0.out.below hb)
  have S0 := Lib.hid (S0.out.below hb)
  have B := Lib.hid (B.out.trans (hb.mono B.out.size))
  clear hb hd
  clear S0
  go_wp2_with fail
  refine (toIntS_any _ len0 _ vs _ H0.out).mono ?_
  rintro e w3x ⟨gX0, rfl, ho, hb⟩
  have H0 := Lib.hid (H0.out.below hb)
  have X0 := Lib.hid (IsInts.of_owns ho (by omega))
  have B := Lib.hid (B.out.trans (hb.mono B.out.size))
  clear hb ho
  go_wp2_with fail
  refine (implQuo_as _ len0 _ vs a1 a2 r u _ X0.out HR.out HU.out).mono ?_
  rintro e w4x ⟨rfl, hb⟩
  have H0 := Lib.hid (H0.out.below hb)
  have X0 := Lib.hid (X0.out.below hb)
  have B := Lib.hid (B.out.trans (hb.mono B.out.size))
  clear hb
  go_wp2_with fail
  refine (toIntS_any _ len0 _ vs _ H0.out).mono ?_
  rintro e w5x ⟨gY0, rfl, ho, hb⟩
  have H0 := Lib.hid (H0.out.below hb)
  have X0 := Lib.hid (X0.out.below hb)
  have Y0 := Lib.hid (IsInts.of_owns ho (by omega))
  have B := Lib.hid (B.out.trans (hb.mono B.out.size))
  clear hb ho
  go_wp2_with fail
  refine (eqIntS_any _ _ _ vs _ _ _ vs _ X0.out Y0.out).mono ?_
  rintro e w6x ⟨rfl, hd⟩
  have hb := hd.below w5x.heap.size
  have H0 := Lib.hid (H0.out.below hb)
  have X0 := Lib.hid (X0.out.below hb)
  have Y0 := Lib.hid (Y0.out.below hb)
  have B := Lib.hid (B.out.trans (hb.mono B.out.size))
  clear hb hd
  clear Y0
  go_wp2
  go_ret
  exact ⟨rfl, B.out⟩

end Go.Proofs.Ytmbhcgdapglbgaa.fnExactSeatsQuota
