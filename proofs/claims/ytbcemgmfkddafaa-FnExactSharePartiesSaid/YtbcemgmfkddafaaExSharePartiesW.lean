/-
  laws.FnExactShareParties returns true for every arguments: impl.ShareParties answers as spec.ShareParties and leaves its argument as it was. No condition.
-/
import Derived.Test.YtbcemgmfkddafaaGrp1
import Derived.Test.YtbcemgmfkddafaaGrp14
import Derived.Test.YtbcemgmfkddafaaGrp15
namespace Go.Proofs.Ytbcemgmfkddafaa.fnExactShareParties
open Go.RowKit
set_option linter.unusedVariables false


set_option maxRecDepth 100000 in
set_option maxHeartbeats 2000000 in
/-- The law's walk: it returns true, and writes nothing that was there. -/
theorem walk (a0 : Option Addr) (len0 cap0 : Nat) (z0 : List Int) (w : World) (w0 : IsRow .i64 w a0 len0 cap0 z0) :
    Calls Try.prog 14 #[.slice a0 len0 cap0] w fun e w' => e = .returned (.bool true) ∧ Below w.heap.size w w' := by
---
  by_cases hl0 : len0 ≤ 1048576
  case neg =>
    have hl' : (1048576 : Int) < (len0 : Int) := by omega
    clear w0
    go_enter Try.func14, Try.ntmps14
    go_wp2
    all_goals
      go_ret
      exact ⟨rfl, Below.refl _ _⟩
  have HI0 := w0.ints hl0
  obtain ⟨vs, hvs⟩ : ∃ zs, z0.take len0 = zs := ⟨_, rfl⟩
  rw [hvs] at HI0
  have H0 := Lib.hid HI0
  have he0 : eqB vs vs = true := eqB_self vs
  clear HI0 hvs w0
  have B : Hid (Below w.heap.size w w) := Below.refl _ _
  obtain ⟨v, hv⟩ : ∃ v, voteB vs = v := ⟨_, rfl⟩
  obtain ⟨p, q, hpq⟩ : ∃ p q, parR vs = (p, q) := ⟨_, _, rfl⟩
  have HV := Lib.hid hv
  have HP := Lib.hid hpq
  clear hv hpq
  have hne : (v != v) = false := by cases v <;> rfl
  go_enter Try.func14, Try.ntmps14
  go_wp2_with fail
  refine (toIntS_any _ len0 _ vs _ H0.out).mono ?_
  rintro e w1x ⟨gS0, rfl, ho, hb⟩
  have H0 := Lib.hid (H0.out.below hb)
  have S0 := Lib.hid (IsInts.of_owns ho (by omega))
  have B := Lib.hid (B.out.trans (hb.mono B.out.size))
  clear hb ho
  go_wp2_with fail
  refine (specPar_as _ len0 _ vs p q v _ S0.out HV.out HP.out).mono ?_
  rintro e w2x ⟨rfl, hb⟩
  have H0 := Lib.hid (H0.out.below hb)
  have S0 := Lib.hid (S0.out.below hb)
  have B := Lib.hid (B.out.trans (hb.mono B.out.size))
  clear hb
  clear S0
  obtain ⟨wa, hwa⟩ : ∃ wa, w2x.alloc (.cells #[.int .i64 p, .int .i64 q] 38) = wa := ⟨_, rfl⟩
  have BA : Hid (Below w2x.heap.size w2x wa) := by rw [Hid, ← hwa]; exact (Below.refl _ w2x).alloc (Nat.le_refl _) _
  obtain ⟨Pa, hPa⟩ : ∃ Pa, w2x.heap.size = Pa := ⟨_, rfl⟩
  have Ta : Hid (Two wa Pa p q) := by rw [Hid, ← hwa, ← hPa]; exact Two.new w2x p q 38
  have H0 := Lib.hid (H0.out.below BA.out)
  have B := Lib.hid (B.out.trans (BA.out.mono B.out.size))
  go_wp2_with fail
  (try rw [hwa])
  (try rw [hPa])
  clear hwa hPa BA
  refine (toIntS_any _ len0 _ vs _ H0.out).mono ?_
  rintro e w3x ⟨gX0, rfl, ho, hb⟩
  have H0 := Lib.hid (H0.out.below hb)
  have Ta := Lib.hid (Ta.out.below hb)
  have X0 := Lib.hid (IsInts.of_owns ho (by omega))
  have B := Lib.hid (B.out.trans (hb.mono B.out.size))
  clear hb ho
  go_wp2_with fail
  refine (implPar_as _ len0 _ vs p q v _ X0.out HV.out HP.out).mono ?_
  rintro e w4x ⟨rfl, hb⟩
  have H0 := Lib.hid (H0.out.below hb)
  have Ta := Lib.hid (Ta.out.below hb)
  have X0 := Lib.hid (X0.out.below hb)
  have B := Lib.hid (B.out.trans (hb.mono B.out.size))
  clear hb
  obtain ⟨l0, c0, d0, -, -⟩ := Ta.out
  have K0 := (Below.refl w4x.heap.size w4x).alloc (Nat.le_refl _) (.cells #[.int .i64 p, .int .i64 q] 38)
  have H0 := Lib.hid (H0.out.below K0)
  have X0 := Lib.hid (X0.out.below K0)
  have B := Lib.hid (B.out.trans (K0.mono B.out.size))
  clear K0
  go_wp2_with fail
  refine (eqFrac_as p q p q true _ (eqF_self p q)).mono ?_
  rintro e w5x ⟨rfl, hb⟩
  have H0 := Lib.hid (H0.out.below hb)
  have X0 := Lib.hid (X0.out.below hb)
  have B := Lib.hid (B.out.trans (hb.mono B.out.size))
  clear hb
  go_wp2_with fail
  refine (toIntS_any _ len0 _ vs _ H0.out).mono ?_
  rintro e w6x ⟨gY0, rfl, ho, hb⟩
  have H0 := Lib.hid (H0.out.below hb)
  have X0 := Lib.hid (X0.out.below hb)
  have Y0 := Lib.hid (IsInts.of_owns ho (by omega))
  have B := Lib.hid (B.out.trans (hb.mono B.out.size))
  clear hb ho
  go_wp2_with fail
  refine (eqIntS_any _ _ _ vs _ _ _ vs _ X0.out Y0.out).mono ?_
  rintro e w7x ⟨rfl, hd⟩
  have hb := hd.below w6x.heap.size
  have H0 := Lib.hid (H0.out.below hb)
  have X0 := Lib.hid (X0.out.below hb)
  have Y0 := Lib.hid (Y0.out.below hb)
  have B := Lib.hid (B.out.trans (hb.mono B.out.size))
  clear hb hd
  go_wp2
  go_ret
  exact ⟨rfl, B.out⟩

end Go.Proofs.Ytbcemgmfkddafaa.fnExactShareParties
