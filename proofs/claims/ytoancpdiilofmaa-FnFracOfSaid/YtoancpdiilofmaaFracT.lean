/-
  spec.FracOf, spec.FracAdd, spec.FracTimes and spec.FracLess: what they answer at every two fractions; they write into no memory that was there.
-/
import Derived.Test.YtoancpdiilofmaaFracS
import Derived.Test.YtoancpdiilofmaaTwo
namespace Go.Proofs.Ytoancpdiilofmaa
open Go.RowKit

set_option maxRecDepth 100000 in
set_option maxHeartbeats 2000000 in
/-- **spec.FracOf**. -/
theorem specFracOf_as (n d x y : Int) (ok : Bool) (w : World) (hf : ofR n d = (x, y)) (hok : ofOk n d = ok) :
    Calls Try.prog 18 #[.int .i64 n, .int .i64 d] w (ToldF w x y ok) := by
  have HOK : Hid ((inB n (-9999999) 9999999 && inB d 1 9999999) = ok) := hok
  cases ok
  · rw [ofR_no hok] at hf
    obtain ⟨rfl, rfl⟩ := Prod.ext_iff.1 hf
    clear hok hf
    cases h1 : inB n (-9999999) 9999999
    · have H1 := Lib.hid h1
      clear h1
      go_enter Try.func18, Try.ntmps18
      go_wp2_with fail
      refine (l6In_any _ _ _ _).mono ?_
      rintro e w1 ⟨he, rfl⟩
      rw [H1.out] at he
      subst he
      go_wp2
      go_returns
      exact told_f rfl rfl rfl (by go_grown)
    · have H1 := Lib.hid h1
      have H2 : Hid (inB d 1 9999999 = false) := by have := HOK.out; rw [h1, Bool.true_and] at this; exact this
      clear h1
      go_enter Try.func18, Try.ntmps18
      go_wp2_with fail
      refine (l6In_any _ _ _ _).mono ?_
      rintro e w1 ⟨he, rfl⟩
      rw [H1.out] at he
      subst he
      go_wp2_with fail
      refine (l6In_any _ _ _ _).mono ?_
      rintro e w1 ⟨he, rfl⟩
      rw [H2.out] at he
      subst he
      go_wp2
      go_returns
      exact told_f rfl rfl rfl (by go_grown)
  · rw [ofR_yes hok] at hf
    obtain ⟨b1, b2⟩ := (ofOk_iff n d).1 hok
    have H1 : Hid (inB n (-9999999) 9999999 = true) := by have := HOK.out; simp at this; exact this.1
    have H2 : Hid (inB d 1 9999999 = true) := by have := HOK.out; simp at this; exact this.2
    clear hok
    have HF := Lib.hid hf
    clear hf
    have B0 := Lib.hid ((Below.refl _ w).alloc (Nat.le_refl _) (.cells #[.int .i64 0, .int .i64 0] 26))
    have T0 := Lib.hid (Two.new w 0 0 26)
    go_enter Try.func18, Try.ntmps18
    go_wp2_with fail
    refine (l6In_any _ _ _ _).mono ?_
    rintro e w1 ⟨he, rfl⟩
    rw [H1.out] at he
    subst he
    go_wp2_with fail
    refine (l6In_any _ _ _ _).mono ?_
    rintro e w1 ⟨he, rfl⟩
    rw [H2.out] at he
    subst he
    go_wp2_with fail
    refine (l5Of_as n d x y _ (by omega) (by omega) HF.out).mono ?_
    rintro e w1 ⟨rfl, hb⟩
    have T1 := Lib.hid (T0.out.below hb)
    have B1 := Lib.hid (below_on B0.out hb)
    clear hb
    obtain ⟨lr, r0, r9, g0, g9⟩ := T1.out
    have k0 := Two.set0 T1.out (.int .i64 x)
    have k9 := Two.set1 T1.out (.int .i64 x) (.int .i64 y)
    go_wp2
    refine bodyPost_ret (v := .tuple #[.agg #[.int .i64 x, .int .i64 y], .bool true]) (by simp [results, Try.results18, go_sem, k0, k9]) rfl ?_
    exact told_f rfl rfl rfl (below_set2 B1.out (Nat.le_refl _) _ _)

set_option maxRecDepth 100000 in
set_option maxHeartbeats 4000000 in
/-- **spec.FracAdd**. -/
theorem specFracAdd_as (a1 a2 b1 b2 x y : Int) (ok : Bool) (w : World) (hf : addR (a1, a2) (b1, b2) = (x, y)) (hok : addOk (a1, a2) (b1, b2) = ok) :
    Calls Try.prog 22 #[.agg #[.int .i64 a1, .int .i64 a2], .agg #[.int .i64 b1, .int .i64 b2]] w (ToldF w x y ok) := by
  have T0 := Lib.hid (Tri.new w a1 a2 b1 b2 26 26 26)
  have B0 := Lib.hid (three_allocs w (.cells #[.int .i64 a1, .int .i64 a2] 26) (.cells #[.int .i64 b1, .int .i64 b2] 26) (.cells #[.int .i64 0, .int .i64 0] 26))
  cases ha : fracB (a1, a2)
  · obtain rfl : ok = false := by rw [← hok]; simp [addOk, ha]
    rw [addR_no hok] at hf
    obtain ⟨rfl, rfl⟩ := Prod.ext_iff.1 hf
    clear hok hf
    have HA := Lib.hid ha
    clear ha
    go_enter Try.func22, Try.ntmps22
    go_wp2_with fail
    refine (specFrac_as a1 a2 false _ HA.out).mono ?_
    rintro e w1 ⟨rfl, hb⟩
    have T1 := Lib.hid (T0.out.below hb)
    have B1 := Lib.hid (below_on B0.out hb)
    clear hb
    obtain ⟨⟨la, a0, a9, -, -⟩, ⟨lb, b0, b9, -, -⟩, ⟨lr, r0, r9, g0, g9⟩⟩ := T1.out
    have k0 := Two.set0 T1.out.r (.int .i64 0)
    have k9 := Two.set1 T1.out.r (.int .i64 0) (.int .i64 0)
    go_wp2
    refine bodyPost_ret (v := .tuple #[.agg #[.int .i64 0, .int .i64 0], .bool false]) (by simp [results, Try.results22, go_sem, k0, k9]) rfl ?_
    exact told_f rfl rfl rfl (below_set2 B1.out (by omega) _ _)
  · cases hv : fracB (b1, b2)
    · obtain rfl : ok = false := by rw [← hok]; simp [addOk, ha, hv]
      rw [addR_no hok] at hf
      obtain ⟨rfl, rfl⟩ := Prod.ext_iff.1 hf
      clear hok hf
      have HA := Lib.hid ha
      have HV := Lib.hid hv
      clear ha hv
      go_enter Try.func22, Try.ntmps22
      go_wp2_with fail
      refine (specFrac_as a1 a2 true _ HA.out).mono ?_
      rintro e w1 ⟨rfl, hb⟩
      have T1 := Lib.hid (T0.out.below hb)
      have B1 := Lib.hid (below_on B0.out hb)
      clear hb
      obtain ⟨⟨la, a0, a9, -, -⟩, ⟨lb, b0, b9, -, -⟩, ⟨lr, r0, r9, g0, g9⟩⟩ := T1.out
      go_wp2_with fail
      refine (specFrac_as b1 b2 false _ HV.out).mono ?_
      rintro e w2 ⟨rfl, hb⟩
      clear la a0 a9 lb b0 b9 lr r0 r9 g0 g9
      have T2 := Lib.hid (T1.out.below hb)
      have B2 := Lib.hid (below_on B1.out hb)
      clear hb
      obtain ⟨⟨la, a0, a9, -, -⟩, ⟨lb, b0, b9, -, -⟩, ⟨lr, r0, r9, g0, g9⟩⟩ := T2.out
      have k0 := Two.set0 T2.out.r (.int .i64 0)
      have k9 := Two.set1 T2.out.r (.int .i64 0) (.int .i64 0)
      go_wp2
      refine bodyPost_ret (v := .tuple #[.agg #[.int .i64 0, .int .i64 0], .bool false]) (by simp [results, Try.results22, go_sem, k0, k9]) rfl ?_
      exact told_f rfl rfl rfl (below_set2 B2.out (by omega) _ _)
    · obtain ⟨u, v, huv⟩ : ∃ u v, ofF (sumF (a1, a2) (b1, b2)).1 (sumF (a1, a2) (b1, b2)).2 = (u, v) := ⟨_, _, rfl⟩
      have hbd := sumF_bound ha hv
      obtain ⟨hA1, hA2, -⟩ := (fracB_iff _).1 ha
      obtain ⟨hV1, hV2, -⟩ := (fracB_iff _).1 hv
      have hOK : addOk (a1, a2) (b1, b2) = fracB (u, v) := by simp [addOk, ha, hv, huv]
      rw [hOK] at hok
      have HR : Hid ((x, y) = if ok = true then (u, v) else (0, 0)) := by unfold Hid; rw [← hf, addR, hOK, hok, huv]
      simp only [sumF] at hbd huv
      have hA1' : -9999999 ≤ a1 ∧ a1 ≤ 9999999 := hA1
      have hA2' : 1 ≤ a2 ∧ a2 ≤ 9999999 := hA2
      have hV1' : -9999999 ≤ b1 ∧ b1 ≤ 9999999 := hV1
      have hV2' : 1 ≤ b2 ∧ b2 ≤ 9999999 := hV2
      have m1 := mul_bound hA1' (y := b2) ⟨by omega, by omega⟩
      have m2 := mul_bound hV1' (y := a2) ⟨by omega, by omega⟩
      have m3 := mul_bound (x := a2) ⟨by omega, by omega⟩ (y := b2) ⟨by omega, by omega⟩
      have hp1 : IntKind.i64.wrap (a1 * b2) = a1 * b2 := IntWalk.i64_in _ (by omega)
      have hp2 : IntKind.i64.wrap (b1 * a2) = b1 * a2 := IntWalk.i64_in _ (by omega)
      have hp3 : IntKind.i64.wrap (a2 * b2) = a2 * b2 := IntWalk.i64_in _ (by omega)
      have hp4 : IntKind.i64.wrap (a1 * b2 + b1 * a2) = a1 * b2 + b1 * a2 := IntWalk.i64_in _ (by omega)
      have HA := Lib.hid ha
      have HV := Lib.hid hv
      have HUV := Lib.hid huv
      have HOK := Lib.hid hok
      clear ha hv huv hOK hok hf hA1 hA2 hV1 hV2
      go_enter Try.func22, Try.ntmps22
      go_wp2_with fail
      refine (specFrac_as a1 a2 true _ HA.out).mono ?_
      rintro e w1 ⟨rfl, hb⟩
      have T1 := Lib.hid (T0.out.below hb)
      have B1 := Lib.hid (below_on B0.out hb)
      clear hb
      obtain ⟨⟨la, a0, a9, -, -⟩, ⟨lb, b0, b9, -, -⟩, ⟨lr, r0, r9, g0, g9⟩⟩ := T1.out
      go_wp2_with fail
      refine (specFrac_as b1 b2 true _ HV.out).mono ?_
      rintro e w2 ⟨rfl, hb⟩
      clear la a0 a9 lb b0 b9 lr r0 r9 g0 g9
      have T2 := Lib.hid (T1.out.below hb)
      have B2 := Lib.hid (below_on B1.out hb)
      clear hb
      obtain ⟨⟨la, a0, a9, -, -⟩, ⟨lb, b0, b9, -, -⟩, ⟨lr, r0, r9, g0, g9⟩⟩ := T2.out
      go_wp2_with fail
      refine (l5Of_as _ _ u v _ (by omega) (by omega) HUV.out).mono ?_
      rintro e w3 ⟨rfl, hb⟩
      clear la a0 a9 lb b0 b9 lr r0 r9 g0 g9
      have T3 := Lib.hid (T2.out.below hb)
      have B3 := Lib.hid (below_on B2.out hb)
      clear hb
      obtain ⟨⟨la, a0, a9, -, -⟩, ⟨lb, b0, b9, -, -⟩, ⟨lr, r0, r9, g0, g9⟩⟩ := T3.out
      have T4 := Lib.hid (T3.out.alloc (.cells #[.int .i64 u, .int .i64 v] 26))
      have S4 := Lib.hid (Two.new w3 u v 26)
      have B4 := Lib.hid (below_on B3.out ((Below.refl _ w3).alloc (Nat.le_refl _) (.cells #[.int .i64 u, .int .i64 v] 26)))
      go_wp2_with fail
      refine (specFrac_as u v ok _ HOK.out).mono ?_
      rintro e w5 ⟨rfl, hb⟩
      have S5 := Lib.hid (S4.out.below hb)
      clear la a0 a9 lb b0 b9 lr r0 r9 g0 g9
      have T5 := Lib.hid (T4.out.below hb)
      have B5 := Lib.hid (below_on B4.out hb)
      clear hb
      obtain ⟨⟨la, a0, a9, -, -⟩, ⟨lb, b0, b9, -, -⟩, ⟨lr, r0, r9, g0, g9⟩⟩ := T5.out
      obtain ⟨ls, s0, s9, -, -⟩ := S5.out
      cases ok
      · obtain ⟨rfl, rfl⟩ := Prod.ext_iff.1 HR.out
        have k0 := Two.set0 T5.out.r (.int .i64 0)
        have k9 := Two.set1 T5.out.r (.int .i64 0) (.int .i64 0)
        go_wp2
        refine bodyPost_ret (v := .tuple #[.agg #[.int .i64 0, .int .i64 0], .bool false]) (by simp [results, Try.results22, go_sem, k0, k9]) rfl ?_
        exact told_f rfl rfl rfl (below_set2 B5.out (by omega) _ _)
      · obtain ⟨rfl, rfl⟩ := Prod.ext_iff.1 HR.out
        have k0 := Two.set0 T5.out.r (.int .i64 x)
        have k9 := Two.set1 T5.out.r (.int .i64 x) (.int .i64 y)
        go_wp2
        refine bodyPost_ret (v := .tuple #[.agg #[.int .i64 x, .int .i64 y], .bool true]) (by simp [results, Try.results22, go_sem, k0, k9]) rfl ?_
        exact told_f rfl rfl rfl (below_set2 B5.out (by omega) _ _)

set_option maxRecDepth 100000 in
set_option maxHeartbeats 4000000 in
/-- **spec.FracTimes**. -/
theorem specFracTimes_as (a1 a2 b1 b2 x y : Int) (ok : Bool) (w : World) (hf : mulR (a1, a2) (b1, b2) = (x, y)) (hok : mulOk (a1, a2) (b1, b2) = ok) :
    Calls Try.prog 25 #[.agg #[.int .i64 a1, .int .i64 a2], .agg #[.int .i64 b1, .int .i64 b2]] w (ToldF w x y ok) := by
  have T0 := Lib.hid (Tri.new w a1 a2 b1 b2 26 26 26)
  have B0 := Lib.hid (three_allocs w (.cells #[.int .i64 a1, .int .i64 a2] 26) (.cells #[.int .i64 b1, .int .i64 b2] 26) (.cells #[.int .i64 0, .int .i64 0] 26))
  cases ha : fracB (a1, a2)
  · obtain rfl : ok = false := by rw [← hok]; simp [mulOk, ha]
    rw [mulR_no hok] at hf
    obtain ⟨rfl, rfl⟩ := Prod.ext_iff.1 hf
    clear hok hf
    have HA := Lib.hid ha
    clear ha
    go_enter Try.func25, Try.ntmps25
    go_wp2_with fail
    refine (specFrac_as a1 a2 false _ HA.out).mono ?_
    rintro e w1 ⟨rfl, hb⟩
    have T1 := Lib.hid (T0.out.below hb)
    have B1 := Lib.hid (below_on B0.out hb)
    clear hb
    obtain ⟨⟨la, a0, a9, -, -⟩, ⟨lb, b0, b9, -, -⟩, ⟨lr, r0, r9, g0, g9⟩⟩ := T1.out
    have k0 := Two.set0 T1.out.r (.int .i64 0)
    have k9 := Two.set1 T1.out.r (.int .i64 0) (.int .i64 0)
    go_wp2
    refine bodyPost_ret (v := .tuple #[.agg #[.int .i64 0, .int .i64 0], .bool false]) (by simp [results, Try.results25, go_sem, k0, k9]) rfl ?_
    exact told_f rfl rfl rfl (below_set2 B1.out (by omega) _ _)
  · cases hv : fracB (b1, b2)
    · obtain rfl : ok = false := by rw [← hok]; simp [mulOk, ha, hv]
      rw [mulR_no hok] at hf
      obtain ⟨rfl, rfl⟩ := Prod.ext_iff.1 hf
      clear hok hf
      have HA := Lib.hid ha
      have HV := Lib.hid hv
      clear ha hv
      go_enter Try.func25, Try.ntmps25
      go_wp2_with fail
      refine (specFrac_as a1 a2 true _ HA.out).mono ?_
      rintro e w1 ⟨rfl, hb⟩
      have T1 := Lib.hid (T0.out.below hb)
      have B1 := Lib.hid (below_on B0.out hb)
      clear hb
      obtain ⟨⟨la, a0, a9, -, -⟩, ⟨lb, b0, b9, -, -⟩, ⟨lr, r0, r9, g0, g9⟩⟩ := T1.out
      go_wp2_with fail
      refine (specFrac_as b1 b2 false _ HV.out).mono ?_
      rintro e w2 ⟨rfl, hb⟩
      clear la a0 a9 lb b0 b9 lr r0 r9 g0 g9
      have T2 := Lib.hid (T1.out.below hb)
      have B2 := Lib.hid (below_on B1.out hb)
      clear hb
      obtain ⟨⟨la, a0, a9, -, -⟩, ⟨lb, b0, b9, -, -⟩, ⟨lr, r0, r9, g0, g9⟩⟩ := T2.out
      have k0 := Two.set0 T2.out.r (.int .i64 0)
      have k9 := Two.set1 T2.out.r (.int .i64 0) (.int .i64 0)
      go_wp2
      refine bodyPost_ret (v := .tuple #[.agg #[.int .i64 0, .int .i64 0], .bool false]) (by simp [results, Try.results25, go_sem, k0, k9]) rfl ?_
      exact told_f rfl rfl rfl (below_set2 B2.out (by omega) _ _)
    · obtain ⟨u, v, huv⟩ : ∃ u v, ofF (proF (a1, a2) (b1, b2)).1 (proF (a1, a2) (b1, b2)).2 = (u, v) := ⟨_, _, rfl⟩
      have hbd := proF_bound ha hv
      obtain ⟨hA1, hA2, -⟩ := (fracB_iff _).1 ha
      obtain ⟨hV1, hV2, -⟩ := (fracB_iff _).1 hv
      have hOK : mulOk (a1, a2) (b1, b2) = fracB (u, v) := by simp [mulOk, ha, hv, huv]
      rw [hOK] at hok
      have HR : Hid ((x, y) = if ok = true then (u, v) else (0, 0)) := by unfold Hid; rw [← hf, mulR, hOK, hok, huv]
      simp only [proF] at hbd huv
      have hA1' : -9999999 ≤ a1 ∧ a1 ≤ 9999999 := hA1
      have hA2' : 1 ≤ a2 ∧ a2 ≤ 9999999 := hA2
      have hV1' : -9999999 ≤ b1 ∧ b1 ≤ 9999999 := hV1
      have hV2' : 1 ≤ b2 ∧ b2 ≤ 9999999 := hV2
      have m1 := mul_bound2 hA1' hV1'
      have m3 := mul_bound (x := a2) ⟨by omega, by omega⟩ (y := b2) ⟨by omega, by omega⟩
      have hp1 : IntKind.i64.wrap (a1 * b1) = a1 * b1 := IntWalk.i64_in _ (by omega)
      have hp3 : IntKind.i64.wrap (a2 * b2) = a2 * b2 := IntWalk.i64_in _ (by omega)
      have HA := Lib.hid ha
      have HV := Lib.hid hv
      have HUV := Lib.hid huv
      have HOK := Lib.hid hok
      clear ha hv huv hOK hok hf hA1 hA2 hV1 hV2
      go_enter Try.func25, Try.ntmps25
      go_wp2_with fail
      refine (specFrac_as a1 a2 true _ HA.out).mono ?_
      rintro e w1 ⟨rfl, hb⟩
      have T1 := Lib.hid (T0.out.below hb)
      have B1 := Lib.hid (below_on B0.out hb)
      clear hb
      obtain ⟨⟨la, a0, a9, -, -⟩, ⟨lb, b0, b9, -, -⟩, ⟨lr, r0, r9, g0, g9⟩⟩ := T1.out
      go_wp2_with fail
      refine (specFrac_as b1 b2 true _ HV.out).mono ?_
      rintro e w2 ⟨rfl, hb⟩
      clear la a0 a9 lb b0 b9 lr r0 r9 g0 g9
      have T2 := Lib.hid (T1.out.below hb)
      have B2 := Lib.hid (below_on B1.out hb)
      clear hb
      obtain ⟨⟨la, a0, a9, -, -⟩, ⟨lb, b0, b9, -, -⟩, ⟨lr, r0, r9, g0, g9⟩⟩ := T2.out
      go_wp2_with fail
      refine (l5Of_as _ _ u v _ (by omega) (by omega) HUV.out).mono ?_
      rintro e w3 ⟨rfl, hb⟩
      clear la a0 a9 lb b0 b9 lr r0 r9 g0 g9
      have T3 := Lib.hid (T2.out.below hb)
      have B3 := Lib.hid (below_on B2.out hb)
      clear hb
      obtain ⟨⟨la, a0, a9, -, -⟩, ⟨lb, b0, b9, -, -⟩, ⟨lr, r0, r9, g0, g9⟩⟩ := T3.out
      have T4 := Lib.hid (T3.out.alloc (.cells #[.int .i64 u, .int .i64 v] 26))
      have S4 := Lib.hid (Two.new w3 u v 26)
      have B4 := Lib.hid (below_on B3.out ((Below.refl _ w3).alloc (Nat.le_refl _) (.cells #[.int .i64 u, .int .i64 v] 26)))
      go_wp2_with fail
      refine (specFrac_as u v ok _ HOK.out).mono ?_
      rintro e w5 ⟨rfl, hb⟩
      have S5 := Lib.hid (S4.out.below hb)
      clear la a0 a9 lb b0 b9 lr r0 r9 g0 g9
      have T5 := Lib.hid (T4.out.below hb)
      have B5 := Lib.hid (below_on B4.out hb)
      clear hb
      obtain ⟨⟨la, a0, a9, -, -⟩, ⟨lb, b0, b9, -, -⟩, ⟨lr, r0, r9, g0, g9⟩⟩ := T5.out
      obtain ⟨ls, s0, s9, -, -⟩ := S5.out
      cases ok
      · obtain ⟨rfl, rfl⟩ := Prod.ext_iff.1 HR.out
        have k0 := Two.set0 T5.out.r (.int .i64 0)
        have k9 := Two.set1 T5.out.r (.int .i64 0) (.int .i64 0)
        go_wp2
        refine bodyPost_ret (v := .tuple #[.agg #[.int .i64 0, .int .i64 0], .bool false]) (by simp [results, Try.results25, go_sem, k0, k9]) rfl ?_
        exact told_f rfl rfl rfl (below_set2 B5.out (by omega) _ _)
      · obtain ⟨rfl, rfl⟩ := Prod.ext_iff.1 HR.out
        have k0 := Two.set0 T5.out.r (.int .i64 x)
        have k9 := Two.set1 T5.out.r (.int .i64 x) (.int .i64 y)
        go_wp2
        refine bodyPost_ret (v := .tuple #[.agg #[.int .i64 x, .int .i64 y], .bool true]) (by simp [results, Try.results25, go_sem, k0, k9]) rfl ?_
        exact told_f rfl rfl rfl (below_set2 B5.out (by omega) _ _)

set_option maxRecDepth 100000 in
set_option maxHeartbeats 4000000 in
/-- **spec.FracLess**. -/
theorem specFracLess_as (a1 a2 b1 b2 : Int) (v : Bool) (w : World) (hf : lessB (a1, a2) (b1, b2) = v) :
    Calls Try.prog 28 #[.agg #[.int .i64 a1, .int .i64 a2], .agg #[.int .i64 b1, .int .i64 b2]] w fun e w' => e = .returned (.bool v) ∧ Below w.heap.size w w' := by
  have T0 := Lib.hid (Duo.new w a1 a2 b1 b2 26 26)
  have B0 := Lib.hid (two_allocs w (.cells #[.int .i64 a1, .int .i64 a2] 26) (.cells #[.int .i64 b1, .int .i64 b2] 26))
  cases ha : fracB (a1, a2)
  · obtain rfl : v = false := by rw [← hf]; simp [lessB, ha]
    have HA := Lib.hid ha
    clear ha hf
    go_enter Try.func28, Try.ntmps28
    go_wp2_with fail
    refine (specFrac_as a1 a2 false _ HA.out).mono ?_
    rintro e w1 ⟨rfl, hb⟩
    have B1 := Lib.hid (below_on B0.out hb)
    clear hb
    go_wp2
    go_ret
    exact ⟨rfl, B1.out⟩
  · cases hv : fracB (b1, b2)
    · obtain rfl : v = false := by rw [← hf]; simp [lessB, ha, hv]
      have HA := Lib.hid ha
      have HV := Lib.hid hv
      clear ha hv hf
      go_enter Try.func28, Try.ntmps28
      go_wp2_with fail
      refine (specFrac_as a1 a2 true _ HA.out).mono ?_
      rintro e w1 ⟨rfl, hb⟩
      have B1 := Lib.hid (below_on B0.out hb)
      have T1 := Lib.hid (T0.out.below hb)
      clear hb
      obtain ⟨⟨la, a0, a9, -, -⟩, ⟨lb, b0, b9, -, -⟩⟩ := T1.out
      go_wp2_with fail
      refine (specFrac_as b1 b2 false _ HV.out).mono ?_
      rintro e w2 ⟨rfl, hb⟩
      have B2 := Lib.hid (below_on B1.out hb)
      clear hb
      go_wp2
      go_ret
      exact ⟨rfl, B2.out⟩
    · obtain ⟨hA1, hA2, -⟩ := (fracB_iff _).1 ha
      obtain ⟨hV1, hV2, -⟩ := (fracB_iff _).1 hv
      have hA1' : -9999999 ≤ a1 ∧ a1 ≤ 9999999 := hA1
      have hA2' : 1 ≤ a2 ∧ a2 ≤ 9999999 := hA2
      have hV1' : -9999999 ≤ b1 ∧ b1 ≤ 9999999 := hV1
      have hV2' : 1 ≤ b2 ∧ b2 ≤ 9999999 := hV2
      have m1 := mul_bound hA1' (y := b2) ⟨by omega, by omega⟩
      have m2 := mul_bound hV1' (y := a2) ⟨by omega, by omega⟩
      have hp1 : IntKind.i64.wrap (a1 * b2) = a1 * b2 := IntWalk.i64_in _ (by omega)
      have hp2 : IntKind.i64.wrap (b1 * a2) = b1 * a2 := IntWalk.i64_in _ (by omega)
      have hD : decide (a1 * b2 < b1 * a2) = v := by rw [← hf]; simp [lessB, ha, hv, lessF]
      have HA := Lib.hid ha
      have HV := Lib.hid hv
      clear ha hv hf hA1 hA2 hV1 hV2 m1 m2
      go_enter Try.func28, Try.ntmps28
      go_wp2_with fail
      refine (specFrac_as a1 a2 true _ HA.out).mono ?_
      rintro e w1 ⟨rfl, hb⟩
      have B1 := Lib.hid (below_on B0.out hb)
      have T1 := Lib.hid (T0.out.below hb)
      clear hb
      obtain ⟨⟨la, a0, a9, -, -⟩, ⟨lb, b0, b9, -, -⟩⟩ := T1.out
      go_wp2_with fail
      refine (specFrac_as b1 b2 true _ HV.out).mono ?_
      rintro e w2 ⟨rfl, hb⟩
      have B2 := Lib.hid (below_on B1.out hb)
      have T2 := Lib.hid (T1.out.below hb)
      clear hb la a0 a9 lb b0 b9
      obtain ⟨⟨la, a0, a9, -, -⟩, ⟨lb, b0, b9, -, -⟩⟩ := T2.out
      go_wp2
      go_ret
      exact ⟨rfl, B2.out⟩

end Go.Proofs.Ytoancpdiilofmaa
