/-
  impl.reduced, the methods plus, times and less of a fraction, impl.FracValid, FracOf, FracAdd, FracTimes and FracLess: what they answer; they write into no memory that was there.
-/
import Derived.Test.YtoancpdiilofmaaFracC
namespace Go.Proofs.Ytoancpdiilofmaa
open Go.RowKit

/-- What 'reduced' answers. -/
def redOk (n d : Int) : Bool := fracB (ofF n d)
def redR (n d : Int) : Fr := if redOk n d = true then ofF n d else (0, 0)
theorem redOk_range {n d : Int} (hd : 0 < d) : redOk n d = rangeB (ofF n d).1 (ofF n d).2 := by
  have h := (ofF_red (n := n) hd).2
  unfold redOk fracB rangeB
  rw [h, Bool.eq_iff_iff]
  simp

set_option maxRecDepth 100000 in
set_option maxHeartbeats 2000000 in
/-- **reduced**. -/
theorem reduced_as (n d x y : Int) (ok : Bool) (w : World) (hn : -999999999999999 ≤ n ∧ n ≤ 999999999999999) (hd : 1 ≤ d ∧ d ≤ 999999999999999) (hf : redR n d = (x, y)) (hok : redOk n d = ok) :
    Calls Try.prog 36 #[.int .i64 n, .int .i64 d] w (ToldF w x y ok) := by
  have hg := gcdI_pos (n := n) (d := d) (by omega)
  obtain ⟨g, hge⟩ : ∃ g, gcdI n d = g := ⟨_, rfl⟩
  have HGE := Lib.hid hge
  have hdn : (g : Int) ∣ n := by rw [← hge]; exact gcdI_dvd_left n d
  have hdd : (g : Int) ∣ d := by rw [← hge]; exact gcdI_dvd_right n d
  rw [hge] at hg
  have hgz : ((g : Int) == 0) = false := beq_eq_false_iff_ne.2 (by omega)
  obtain ⟨u, hu⟩ : ∃ u, (ofF n d).1 = u := ⟨_, rfl⟩
  obtain ⟨v, hv⟩ : ∃ v, (ofF n d).2 = v := ⟨_, rfl⟩
  have q1 : n / (g : Int) = u := by rw [← hu, ← hge]; rfl
  have q2 : d / (g : Int) = v := by rw [← hv, ← hge]; rfl
  have t1 : n.tdiv (g : Int) = u := by rw [← q1]; exact Int.tdiv_eq_ediv_of_dvd hdn
  have t2 : d.tdiv (g : Int) = v := by rw [← q2]; exact Int.tdiv_eq_ediv_of_dvd hdd
  have hb := ofF_bound (n := n) (d := d) (by omega)
  rw [hu, hv] at hb
  have hwu : IntKind.i64.wrap u = u := IntWalk.i64_in _ (by omega)
  have hwv : IntKind.i64.wrap v = v := IntWalk.i64_in _ (by omega)
  have hR : rangeB u v = ok := by rw [← hok, redOk_range (by omega), hu, hv]
  have HR := Lib.hid hR
  have HF : Hid ((x, y) = if ok = true then (u, v) else (0, 0)) := by unfold Hid; rw [← hf, redR, hok, ← hu, ← hv]
  have T0 := Lib.hid (Two.new w 0 0 26)
  have B0 := Lib.hid ((Below.refl _ w).alloc (Nat.le_refl _) (.cells #[.int .i64 0, .int .i64 0] 26))
  clear hdn hdd hge hu hv hb hR hf hok
  cases ok
  · obtain ⟨rfl, rfl⟩ := Prod.ext_iff.1 HF.out
    go_enter Try.func36, Try.ntmps36
    go_wp2_with fail
    refine (common_as n d g _ (by omega) (by omega) HGE.out).mono ?_
    rintro e w1 ⟨rfl, hd1⟩
    have T1 := Lib.hid (T0.out.below (hd1.below _))
    have B1 := Lib.hid (below_on B0.out (hd1.below _))
    clear hd1
    go_wp2
    go_quiet (first | (go_at_call 35; exact quiet_same (range_as u v false _ HR.out)))
    have T2 := Lib.hid (T1.out.below (below_drewN _ _ nq))
    have B2 := Lib.hid (below_on B1.out (below_drewN _ _ nq))
    obtain ⟨lr, r0, r9, g0, g9⟩ := T2.out
    have k0 := Two.set0 T2.out (.int .i64 0)
    have k9 := Two.set1 T2.out (.int .i64 0) (.int .i64 0)
    go_wp2
    refine bodyPost_ret (v := .tuple #[.agg #[.int .i64 0, .int .i64 0], .bool false]) (by simp [results, Try.results36, go_sem, k0, k9]) rfl ?_
    exact told_f rfl rfl rfl (below_set2 B2.out (Nat.le_refl _) _ _)
  · obtain ⟨rfl, rfl⟩ := Prod.ext_iff.1 HF.out
    go_enter Try.func36, Try.ntmps36
    go_wp2_with fail
    refine (common_as n d g _ (by omega) (by omega) HGE.out).mono ?_
    rintro e w1 ⟨rfl, hd1⟩
    have T1 := Lib.hid (T0.out.below (hd1.below _))
    have B1 := Lib.hid (below_on B0.out (hd1.below _))
    clear hd1
    go_wp2
    go_quiet (first | (go_at_call 35; exact quiet_same (range_as x y true _ HR.out)))
    have T2 := Lib.hid (T1.out.below (below_drewN _ _ nq))
    have B2 := Lib.hid (below_on B1.out (below_drewN _ _ nq))
    obtain ⟨lr, r0, r9, g0, g9⟩ := T1.out
    have T3 := Lib.hid (T1.out.below (below_drewN _ _ (nq + 1)))
    have B3 := Lib.hid (below_on B1.out (below_drewN _ _ (nq + 1)))
    go_wp2
    go_region
    all_goals
      have k0 := Two.set0 T3.out (.int .i64 x)
      have k9 := Two.set1 T3.out (.int .i64 x) (.int .i64 y)
      go_wp2
      refine bodyPost_ret (v := .tuple #[.agg #[.int .i64 x, .int .i64 y], .bool true]) (by simp [results, Try.results36, go_sem, k0, k9]) rfl ?_
      exact told_f rfl rfl rfl (below_set2 B3.out (Nat.le_refl _) _ _)

set_option maxRecDepth 100000 in
set_option maxHeartbeats 4000000 in
/-- **(Frac).plus**, at two valid fractions. -/
theorem plus_as (a1 a2 b1 b2 x y : Int) (ok : Bool) (w : World) (ha : fracB (a1, a2) = true) (hv : fracB (b1, b2) = true) (hf : redR (sumF (a1, a2) (b1, b2)).1 (sumF (a1, a2) (b1, b2)).2 = (x, y)) (hok : redOk (sumF (a1, a2) (b1, b2)).1 (sumF (a1, a2) (b1, b2)).2 = ok) :
    Calls Try.prog 41 #[.agg #[.int .i64 a1, .int .i64 a2], .agg #[.int .i64 b1, .int .i64 b2]] w (ToldF w x y ok) := by
  have T0 := Lib.hid (Tri.new w a1 a2 b1 b2 26 26 26)
  have B0 := Lib.hid (three_allocs w (.cells #[.int .i64 a1, .int .i64 a2] 26) (.cells #[.int .i64 b1, .int .i64 b2] 26) (.cells #[.int .i64 0, .int .i64 0] 26))
  have hbd := sumF_bound ha hv
  obtain ⟨hA1, hA2, -⟩ := (fracB_iff _).1 ha
  obtain ⟨hV1, hV2, -⟩ := (fracB_iff _).1 hv
  have hA1' : -9999999 ≤ a1 ∧ a1 ≤ 9999999 := hA1
  have hA2' : 1 ≤ a2 ∧ a2 ≤ 9999999 := hA2
  have hV1' : -9999999 ≤ b1 ∧ b1 ≤ 9999999 := hV1
  have hV2' : 1 ≤ b2 ∧ b2 ≤ 9999999 := hV2
  simp only [sumF] at hbd hf hok
  have m1 := mul_bound hA1' (y := b2) ⟨by omega, by omega⟩
  have m2 := mul_bound hV1' (y := a2) ⟨by omega, by omega⟩
  have m3 := mul_bound (x := a2) ⟨by omega, by omega⟩ (y := b2) ⟨by omega, by omega⟩
  have hp1 : IntKind.i64.wrap (a1 * b2) = a1 * b2 := IntWalk.i64_in _ (by omega)
  have hp2 : IntKind.i64.wrap (b1 * a2) = b1 * a2 := IntWalk.i64_in _ (by omega)
  have hp3 : IntKind.i64.wrap (a2 * b2) = a2 * b2 := IntWalk.i64_in _ (by omega)
  have hp4 : IntKind.i64.wrap (a1 * b2 + b1 * a2) = a1 * b2 + b1 * a2 := IntWalk.i64_in _ (by omega)
  have HF := Lib.hid hf
  have HOK := Lib.hid hok
  clear ha hv hf hok hA1 hA2 hV1 hV2
  go_enter Try.func41, Try.ntmps41
  go_wp2_with fail
  refine (parts_any a1 a2 _).mono ?_
  rintro e w1 ⟨rfl, hb⟩
  have T1 := Lib.hid (T0.out.below hb)
  have B1 := Lib.hid (below_on B0.out hb)
  clear hb
  obtain ⟨⟨la, a0, a9, -, -⟩, ⟨lb, b0, b9, -, -⟩, ⟨lr, r0, r9, g0, g9⟩⟩ := T1.out
  go_wp2_with fail
  refine (parts_any b1 b2 _).mono ?_
  rintro e w2 ⟨rfl, hb⟩
  clear la a0 a9 lb b0 b9 lr r0 r9 g0 g9
  have T2 := Lib.hid (T1.out.below hb)
  have B2 := Lib.hid (below_on B1.out hb)
  clear hb
  obtain ⟨⟨la, a0, a9, -, -⟩, ⟨lb, b0, b9, -, -⟩, ⟨lr, r0, r9, g0, g9⟩⟩ := T2.out
  go_wp2_with fail
  refine (reduced_as _ _ x y ok _ (by omega) (by omega) HF.out HOK.out).mono ?_
  rintro e w3 ⟨rfl, hb⟩
  clear la a0 a9 lb b0 b9 lr r0 r9 g0 g9
  have T3 := Lib.hid (T2.out.below hb)
  have B3 := Lib.hid (below_on B2.out hb)
  clear hb
  obtain ⟨⟨la, a0, a9, -, -⟩, ⟨lb, b0, b9, -, -⟩, ⟨lr, r0, r9, g0, g9⟩⟩ := T3.out
  have k0 := Two.set0 T3.out.r (.int .i64 x)
  have k9 := Two.set1 T3.out.r (.int .i64 x) (.int .i64 y)
  go_wp2
  refine bodyPost_ret (v := .tuple #[.agg #[.int .i64 x, .int .i64 y], .bool ok]) (by simp [results, Try.results41, go_sem, k0, k9]) rfl ?_
  exact told_f rfl rfl rfl (below_set2 B3.out (by omega) _ _)

set_option maxRecDepth 100000 in
set_option maxHeartbeats 4000000 in
/-- **(Frac).times**, at two valid fractions. -/
theorem times_as (a1 a2 b1 b2 x y : Int) (ok : Bool) (w : World) (ha : fracB (a1, a2) = true) (hv : fracB (b1, b2) = true) (hf : redR (proF (a1, a2) (b1, b2)).1 (proF (a1, a2) (b1, b2)).2 = (x, y)) (hok : redOk (proF (a1, a2) (b1, b2)).1 (proF (a1, a2) (b1, b2)).2 = ok) :
    Calls Try.prog 42 #[.agg #[.int .i64 a1, .int .i64 a2], .agg #[.int .i64 b1, .int .i64 b2]] w (ToldF w x y ok) := by
  have T0 := Lib.hid (Tri.new w a1 a2 b1 b2 26 26 26)
  have B0 := Lib.hid (three_allocs w (.cells #[.int .i64 a1, .int .i64 a2] 26) (.cells #[.int .i64 b1, .int .i64 b2] 26) (.cells #[.int .i64 0, .int .i64 0] 26))
  have hbd := proF_bound ha hv
  obtain ⟨hA1, hA2, -⟩ := (fracB_iff _).1 ha
  obtain ⟨hV1, hV2, -⟩ := (fracB_iff _).1 hv
  have hA1' : -9999999 ≤ a1 ∧ a1 ≤ 9999999 := hA1
  have hA2' : 1 ≤ a2 ∧ a2 ≤ 9999999 := hA2
  have hV1' : -9999999 ≤ b1 ∧ b1 ≤ 9999999 := hV1
  have hV2' : 1 ≤ b2 ∧ b2 ≤ 9999999 := hV2
  simp only [proF] at hbd hf hok
  have m1 := mul_bound2 hA1' hV1'
  have m3 := mul_bound (x := a2) ⟨by omega, by omega⟩ (y := b2) ⟨by omega, by omega⟩
  have hp1 : IntKind.i64.wrap (a1 * b1) = a1 * b1 := IntWalk.i64_in _ (by omega)
  have hp3 : IntKind.i64.wrap (a2 * b2) = a2 * b2 := IntWalk.i64_in _ (by omega)
  have HF := Lib.hid hf
  have HOK := Lib.hid hok
  clear ha hv hf hok hA1 hA2 hV1 hV2
  go_enter Try.func42, Try.ntmps42
  go_wp2_with fail
  refine (parts_any a1 a2 _).mono ?_
  rintro e w1 ⟨rfl, hb⟩
  have T1 := Lib.hid (T0.out.below hb)
  have B1 := Lib.hid (below_on B0.out hb)
  clear hb
  obtain ⟨⟨la, a0, a9, -, -⟩, ⟨lb, b0, b9, -, -⟩, ⟨lr, r0, r9, g0, g9⟩⟩ := T1.out
  go_wp2_with fail
  refine (parts_any b1 b2 _).mono ?_
  rintro e w2 ⟨rfl, hb⟩
  clear la a0 a9 lb b0 b9 lr r0 r9 g0 g9
  have T2 := Lib.hid (T1.out.below hb)
  have B2 := Lib.hid (below_on B1.out hb)
  clear hb
  obtain ⟨⟨la, a0, a9, -, -⟩, ⟨lb, b0, b9, -, -⟩, ⟨lr, r0, r9, g0, g9⟩⟩ := T2.out
  go_wp2_with fail
  refine (reduced_as _ _ x y ok _ (by omega) (by omega) HF.out HOK.out).mono ?_
  rintro e w3 ⟨rfl, hb⟩
  clear la a0 a9 lb b0 b9 lr r0 r9 g0 g9
  have T3 := Lib.hid (T2.out.below hb)
  have B3 := Lib.hid (below_on B2.out hb)
  clear hb
  obtain ⟨⟨la, a0, a9, -, -⟩, ⟨lb, b0, b9, -, -⟩, ⟨lr, r0, r9, g0, g9⟩⟩ := T3.out
  have k0 := Two.set0 T3.out.r (.int .i64 x)
  have k9 := Two.set1 T3.out.r (.int .i64 x) (.int .i64 y)
  go_wp2
  refine bodyPost_ret (v := .tuple #[.agg #[.int .i64 x, .int .i64 y], .bool ok]) (by simp [results, Try.results42, go_sem, k0, k9]) rfl ?_
  exact told_f rfl rfl rfl (below_set2 B3.out (by omega) _ _)

set_option maxRecDepth 100000 in
set_option maxHeartbeats 2000000 in
/-- **(Frac).less**, at two valid fractions. -/
theorem less_as (a1 a2 b1 b2 : Int) (v : Bool) (w : World) (ha : fracB (a1, a2) = true) (hv : fracB (b1, b2) = true) (hf : lessF (a1, a2) (b1, b2) = v) :
    Calls Try.prog 43 #[.agg #[.int .i64 a1, .int .i64 a2], .agg #[.int .i64 b1, .int .i64 b2]] w fun e w' => e = .returned (.bool v) ∧ Below w.heap.size w w' := by
  have T0 := Lib.hid (Duo.new w a1 a2 b1 b2 26 26)
  have B0 := Lib.hid (two_allocs w (.cells #[.int .i64 a1, .int .i64 a2] 26) (.cells #[.int .i64 b1, .int .i64 b2] 26))
  obtain ⟨hA1, hA2, -⟩ := (fracB_iff _).1 ha
  obtain ⟨hV1, hV2, -⟩ := (fracB_iff _).1 hv
  have hA1' : -9999999 ≤ a1 ∧ a1 ≤ 9999999 := hA1
  have hA2' : 1 ≤ a2 ∧ a2 ≤ 9999999 := hA2
  have hV1' : -9999999 ≤ b1 ∧ b1 ≤ 9999999 := hV1
  have hV2' : 1 ≤ b2 ∧ b2 ≤ 9999999 := hV2
  have m1 := mul_bound hA1' (y := b2) ⟨by omega, by omega⟩
  have m2 := mul_bound hV1' (y := a2) ⟨by omega, by omega⟩
  have hp1 : IntKind.i64.wrap (a1 * b2) = a1 * b2 := IntWalk.i64_in _ (by omega)
  have hp2 : IntKind.i64.wrap (b1 * a2) = b1 * a2 := IntWalk.i64_in _ (by omega)
  have hD : decide (a1 * b2 < b1 * a2) = v := hf
  clear ha hv hf hA1 hA2 hV1 hV2 m1 m2
  go_enter Try.func43, Try.ntmps43
  go_wp2_with fail
  refine (parts_any a1 a2 _).mono ?_
  rintro e w1 ⟨rfl, hb⟩
  have B1 := Lib.hid (below_on B0.out hb)
  have T1 := Lib.hid (T0.out.below hb)
  clear hb
  obtain ⟨⟨la, a0, a9, -, -⟩, ⟨lb, b0, b9, -, -⟩⟩ := T1.out
  go_wp2_with fail
  refine (parts_any b1 b2 _).mono ?_
  rintro e w2 ⟨rfl, hb⟩
  have B2 := Lib.hid (below_on B1.out hb)
  clear hb la a0 a9 lb b0 b9
  go_wp2
  go_ret
  exact ⟨rfl, B2.out⟩

set_option maxRecDepth 100000 in
set_option maxHeartbeats 2000000 in
/-- **impl.FracValid**. -/
theorem implFrac_as (x y : Int) (v : Bool) (w : World) (hv : fracB (x, y) = v) :
    Calls Try.prog 19 #[.agg #[.int .i64 x, .int .i64 y]] w fun e w' => e = .returned (.bool v) ∧ Below w.heap.size w w' := by
  obtain ⟨la, a0, a9, -, -⟩ := Two.new w x y 26
  have B0 := Lib.hid ((Below.refl _ w).alloc (Nat.le_refl _) (.cells #[.int .i64 x, .int .i64 y] 26))
  have HV := Lib.hid hv
  clear hv
  go_enter Try.func19, Try.ntmps19
  go_wp2_with fail
  refine (valid_as x y v _ HV.out).mono ?_
  rintro e w1 ⟨rfl, hb⟩
  have B1 := Lib.hid (below_on B0.out hb)
  clear hb
  go_wp2
  go_ret
  exact ⟨rfl, B1.out⟩

set_option maxRecDepth 100000 in
set_option maxHeartbeats 2000000 in
/-- **impl.FracOf**. -/
theorem implFracOf_as (n d x y : Int) (ok : Bool) (w : World) (hf : ofR n d = (x, y)) (hok : ofOk n d = ok) :
    Calls Try.prog 17 #[.int .i64 n, .int .i64 d] w (ToldF w x y ok) := by
  have HOK : Hid (rangeB n d = ok) := hok
  have T0 := Lib.hid (Two.new w 0 0 26)
  have B0 := Lib.hid ((Below.refl _ w).alloc (Nat.le_refl _) (.cells #[.int .i64 0, .int .i64 0] 26))
  cases ok
  · rw [ofR_no hok] at hf
    obtain ⟨rfl, rfl⟩ := Prod.ext_iff.1 hf
    clear hok hf
    go_enter Try.func17, Try.ntmps17
    go_wp2_with fail
    refine (range_as n d false _ HOK.out).mono ?_
    rintro e w1 ⟨rfl, rfl⟩
    go_wp2
    go_returns
    exact told_f rfl rfl rfl (by go_grown)
  · obtain ⟨b1, b2⟩ := (ofOk_iff n d).1 hok
    have hr : redOk n d = true := by
      unfold redOk
      have := (of_valid hok).1
      rwa [ofR_yes hok] at this
    have HR : Hid (redR n d = (x, y)) := by unfold Hid redR; rw [if_pos hr, ← hf, ofR_yes hok]
    have HK := Lib.hid hr
    clear hok hf hr
    go_enter Try.func17, Try.ntmps17
    go_wp2_with fail
    refine (range_as n d true _ HOK.out).mono ?_
    rintro e w1 ⟨rfl, rfl⟩
    go_wp2_with fail
    refine (reduced_as n d x y true _ (by omega) (by omega) HR.out HK.out).mono ?_
    rintro e w1 ⟨rfl, hb⟩
    have T1 := Lib.hid (T0.out.below hb)
    have B1 := Lib.hid (below_on B0.out hb)
    clear hb
    obtain ⟨lr, r0, r9, g0, g9⟩ := T1.out
    have k0 := Two.set0 T1.out (.int .i64 x)
    have k9 := Two.set1 T1.out (.int .i64 x) (.int .i64 y)
    go_wp2
    refine bodyPost_ret (v := .tuple #[.agg #[.int .i64 x, .int .i64 y], .bool true]) (by simp [results, Try.results17, go_sem, k0, k9]) rfl ?_
    exact told_f rfl rfl rfl (below_set2 B1.out (Nat.le_refl _) _ _)

set_option maxRecDepth 100000 in
set_option maxHeartbeats 4000000 in
/-- **impl.FracAdd**. -/
theorem implFracAdd_as (a1 a2 b1 b2 x y : Int) (ok : Bool) (w : World) (hf : addR (a1, a2) (b1, b2) = (x, y)) (hok : addOk (a1, a2) (b1, b2) = ok) :
    Calls Try.prog 21 #[.agg #[.int .i64 a1, .int .i64 a2], .agg #[.int .i64 b1, .int .i64 b2]] w (ToldF w x y ok) := by
  have T0 := Lib.hid (Tri.new w a1 a2 b1 b2 26 26 26)
  have B0 := Lib.hid (three_allocs w (.cells #[.int .i64 a1, .int .i64 a2] 26) (.cells #[.int .i64 b1, .int .i64 b2] 26) (.cells #[.int .i64 0, .int .i64 0] 26))
  cases ha : fracB (a1, a2)
  · obtain rfl : ok = false := by rw [← hok]; simp [addOk, ha]
    rw [addR_no hok] at hf
    obtain ⟨rfl, rfl⟩ := Prod.ext_iff.1 hf
    clear hok hf
    have HA := Lib.hid ha
    clear ha
    go_enter Try.func21, Try.ntmps21
    go_wp2_with fail
    refine (valid_as a1 a2 false _ HA.out).mono ?_
    rintro e w1 ⟨rfl, hb⟩
    have T1 := Lib.hid (T0.out.below hb)
    have B1 := Lib.hid (below_on B0.out hb)
    clear hb
    obtain ⟨⟨la, a0, a9, -, -⟩, ⟨lb, b0, b9, -, -⟩, ⟨lr, r0, r9, g0, g9⟩⟩ := T1.out
    have k0 := Two.set0 T1.out.r (.int .i64 0)
    have k9 := Two.set1 T1.out.r (.int .i64 0) (.int .i64 0)
    go_wp2
    refine bodyPost_ret (v := .tuple #[.agg #[.int .i64 0, .int .i64 0], .bool false]) (by simp [results, Try.results21, go_sem, k0, k9]) rfl ?_
    exact told_f rfl rfl rfl (below_set2 B1.out (by omega) _ _)
  · cases hv : fracB (b1, b2)
    · obtain rfl : ok = false := by rw [← hok]; simp [addOk, ha, hv]
      rw [addR_no hok] at hf
      obtain ⟨rfl, rfl⟩ := Prod.ext_iff.1 hf
      clear hok hf
      have HA := Lib.hid ha
      have HV := Lib.hid hv
      clear ha hv
      go_enter Try.func21, Try.ntmps21
      go_wp2_with fail
      refine (valid_as a1 a2 true _ HA.out).mono ?_
      rintro e w1 ⟨rfl, hb⟩
      have T1 := Lib.hid (T0.out.below hb)
      have B1 := Lib.hid (below_on B0.out hb)
      clear hb
      obtain ⟨⟨la, a0, a9, -, -⟩, ⟨lb, b0, b9, -, -⟩, ⟨lr, r0, r9, g0, g9⟩⟩ := T1.out
      go_wp2_with fail
      refine (valid_as b1 b2 false _ HV.out).mono ?_
      rintro e w2 ⟨rfl, hb⟩
      clear la a0 a9 lb b0 b9 lr r0 r9 g0 g9
      have T2 := Lib.hid (T1.out.below hb)
      have B2 := Lib.hid (below_on B1.out hb)
      clear hb
      obtain ⟨⟨la, a0, a9, -, -⟩, ⟨lb, b0, b9, -, -⟩, ⟨lr, r0, r9, g0, g9⟩⟩ := T2.out
      have k0 := Two.set0 T2.out.r (.int .i64 0)
      have k9 := Two.set1 T2.out.r (.int .i64 0) (.int .i64 0)
      go_wp2
      refine bodyPost_ret (v := .tuple #[.agg #[.int .i64 0, .int .i64 0], .bool false]) (by simp [results, Try.results21, go_sem, k0, k9]) rfl ?_
      exact told_f rfl rfl rfl (below_set2 B2.out (by omega) _ _)
    · have hO : addOk (a1, a2) (b1, b2) = redOk (sumF (a1, a2) (b1, b2)).1 (sumF (a1, a2) (b1, b2)).2 := by simp [addOk, redOk, ha, hv]
      have hE : addR (a1, a2) (b1, b2) = redR (sumF (a1, a2) (b1, b2)).1 (sumF (a1, a2) (b1, b2)).2 := by unfold addR redR; rw [hO]
      rw [hO] at hok
      rw [hE] at hf
      have HA := Lib.hid ha
      have HV := Lib.hid hv
      have HF := Lib.hid hf
      have HOK := Lib.hid hok
      clear ha hv hf hok hO hE
      go_enter Try.func21, Try.ntmps21
      go_wp2_with fail
      refine (valid_as a1 a2 true _ HA.out).mono ?_
      rintro e w1 ⟨rfl, hb⟩
      have T1 := Lib.hid (T0.out.below hb)
      have B1 := Lib.hid (below_on B0.out hb)
      clear hb
      obtain ⟨⟨la, a0, a9, -, -⟩, ⟨lb, b0, b9, -, -⟩, ⟨lr, r0, r9, g0, g9⟩⟩ := T1.out
      go_wp2_with fail
      refine (valid_as b1 b2 true _ HV.out).mono ?_
      rintro e w2 ⟨rfl, hb⟩
      clear la a0 a9 lb b0 b9 lr r0 r9 g0 g9
      have T2 := Lib.hid (T1.out.below hb)
      have B2 := Lib.hid (below_on B1.out hb)
      clear hb
      obtain ⟨⟨la, a0, a9, -, -⟩, ⟨lb, b0, b9, -, -⟩, ⟨lr, r0, r9, g0, g9⟩⟩ := T2.out
      go_wp2_with fail
      refine (plus_as a1 a2 b1 b2 x y ok _ HA.out HV.out HF.out HOK.out).mono ?_
      rintro e w3 ⟨rfl, hb⟩
      clear la a0 a9 lb b0 b9 lr r0 r9 g0 g9
      have T3 := Lib.hid (T2.out.below hb)
      have B3 := Lib.hid (below_on B2.out hb)
      clear hb
      obtain ⟨⟨la, a0, a9, -, -⟩, ⟨lb, b0, b9, -, -⟩, ⟨lr, r0, r9, g0, g9⟩⟩ := T3.out
      have k0 := Two.set0 T3.out.r (.int .i64 x)
      have k9 := Two.set1 T3.out.r (.int .i64 x) (.int .i64 y)
      go_wp2
      refine bodyPost_ret (v := .tuple #[.agg #[.int .i64 x, .int .i64 y], .bool ok]) (by simp [results, Try.results21, go_sem, k0, k9]) rfl ?_
      exact told_f rfl rfl rfl (below_set2 B3.out (by omega) _ _)

set_option maxRecDepth 100000 in
set_option maxHeartbeats 4000000 in
/-- **impl.FracTimes**. -/
theorem implFracTimes_as (a1 a2 b1 b2 x y : Int) (ok : Bool) (w : World) (hf : mulR (a1, a2) (b1, b2) = (x, y)) (hok : mulOk (a1, a2) (b1, b2) = ok) :
    Calls Try.prog 24 #[.agg #[.int .i64 a1, .int .i64 a2], .agg #[.int .i64 b1, .int .i64 b2]] w (ToldF w x y ok) := by
  have T0 := Lib.hid (Tri.new w a1 a2 b1 b2 26 26 26)
  have B0 := Lib.hid (three_allocs w (.cells #[.int .i64 a1, .int .i64 a2] 26) (.cells #[.int .i64 b1, .int .i64 b2] 26) (.cells #[.int .i64 0, .int .i64 0] 26))
  cases ha : fracB (a1, a2)
  · obtain rfl : ok = false := by rw [← hok]; simp [mulOk, ha]
    rw [mulR_no hok] at hf
    obtain ⟨rfl, rfl⟩ := Prod.ext_iff.1 hf
    clear hok hf
    have HA := Lib.hid ha
    clear ha
    go_enter Try.func24, Try.ntmps24
    go_wp2_with fail
    refine (valid_as a1 a2 false _ HA.out).mono ?_
    rintro e w1 ⟨rfl, hb⟩
    have T1 := Lib.hid (T0.out.below hb)
    have B1 := Lib.hid (below_on B0.out hb)
    clear hb
    obtain ⟨⟨la, a0, a9, -, -⟩, ⟨lb, b0, b9, -, -⟩, ⟨lr, r0, r9, g0, g9⟩⟩ := T1.out
    have k0 := Two.set0 T1.out.r (.int .i64 0)
    have k9 := Two.set1 T1.out.r (.int .i64 0) (.int .i64 0)
    go_wp2
    refine bodyPost_ret (v := .tuple #[.agg #[.int .i64 0, .int .i64 0], .bool false]) (by simp [results, Try.results24, go_sem, k0, k9]) rfl ?_
    exact told_f rfl rfl rfl (below_set2 B1.out (by omega) _ _)
  · cases hv : fracB (b1, b2)
    · obtain rfl : ok = false := by rw [← hok]; simp [mulOk, ha, hv]
      rw [mulR_no hok] at hf
      obtain ⟨rfl, rfl⟩ := Prod.ext_iff.1 hf
      clear hok hf
      have HA := Lib.hid ha
      have HV := Lib.hid hv
      clear ha hv
      go_enter Try.func24, Try.ntmps24
      go_wp2_with fail
      refine (valid_as a1 a2 true _ HA.out).mono ?_
      rintro e w1 ⟨rfl, hb⟩
      have T1 := Lib.hid (T0.out.below hb)
      have B1 := Lib.hid (below_on B0.out hb)
      clear hb
      obtain ⟨⟨la, a0, a9, -, -⟩, ⟨lb, b0, b9, -, -⟩, ⟨lr, r0, r9, g0, g9⟩⟩ := T1.out
      go_wp2_with fail
      refine (valid_as b1 b2 false _ HV.out).mono ?_
      rintro e w2 ⟨rfl, hb⟩
      clear la a0 a9 lb b0 b9 lr r0 r9 g0 g9
      have T2 := Lib.hid (T1.out.below hb)
      have B2 := Lib.hid (below_on B1.out hb)
      clear hb
      obtain ⟨⟨la, a0, a9, -, -⟩, ⟨lb, b0, b9, -, -⟩, ⟨lr, r0, r9, g0, g9⟩⟩ := T2.out
      have k0 := Two.set0 T2.out.r (.int .i64 0)
      have k9 := Two.set1 T2.out.r (.int .i64 0) (.int .i64 0)
      go_wp2
      refine bodyPost_ret (v := .tuple #[.agg #[.int .i64 0, .int .i64 0], .bool false]) (by simp [results, Try.results24, go_sem, k0, k9]) rfl ?_
      exact told_f rfl rfl rfl (below_set2 B2.out (by omega) _ _)
    · have hO : mulOk (a1, a2) (b1, b2) = redOk (proF (a1, a2) (b1, b2)).1 (proF (a1, a2) (b1, b2)).2 := by simp [mulOk, redOk, ha, hv]
      have hE : mulR (a1, a2) (b1, b2) = redR (proF (a1, a2) (b1, b2)).1 (proF (a1, a2) (b1, b2)).2 := by unfold mulR redR; rw [hO]
      rw [hO] at hok
      rw [hE] at hf
      have HA := Lib.hid ha
      have HV := Lib.hid hv
      have HF := Lib.hid hf
      have HOK := Lib.hid hok
      clear ha hv hf hok hO hE
      go_enter Try.func24, Try.ntmps24
      go_wp2_with fail
      refine (valid_as a1 a2 true _ HA.out).mono ?_
      rintro e w1 ⟨rfl, hb⟩
      have T1 := Lib.hid (T0.out.below hb)
      have B1 := Lib.hid (below_on B0.out hb)
      clear hb
      obtain ⟨⟨la, a0, a9, -, -⟩, ⟨lb, b0, b9, -, -⟩, ⟨lr, r0, r9, g0, g9⟩⟩ := T1.out
      go_wp2_with fail
      refine (valid_as b1 b2 true _ HV.out).mono ?_
      rintro e w2 ⟨rfl, hb⟩
      clear la a0 a9 lb b0 b9 lr r0 r9 g0 g9
      have T2 := Lib.hid (T1.out.below hb)
      have B2 := Lib.hid (below_on B1.out hb)
      clear hb
      obtain ⟨⟨la, a0, a9, -, -⟩, ⟨lb, b0, b9, -, -⟩, ⟨lr, r0, r9, g0, g9⟩⟩ := T2.out
      go_wp2_with fail
      refine (times_as a1 a2 b1 b2 x y ok _ HA.out HV.out HF.out HOK.out).mono ?_
      rintro e w3 ⟨rfl, hb⟩
      clear la a0 a9 lb b0 b9 lr r0 r9 g0 g9
      have T3 := Lib.hid (T2.out.below hb)
      have B3 := Lib.hid (below_on B2.out hb)
      clear hb
      obtain ⟨⟨la, a0, a9, -, -⟩, ⟨lb, b0, b9, -, -⟩, ⟨lr, r0, r9, g0, g9⟩⟩ := T3.out
      have k0 := Two.set0 T3.out.r (.int .i64 x)
      have k9 := Two.set1 T3.out.r (.int .i64 x) (.int .i64 y)
      go_wp2
      refine bodyPost_ret (v := .tuple #[.agg #[.int .i64 x, .int .i64 y], .bool ok]) (by simp [results, Try.results24, go_sem, k0, k9]) rfl ?_
      exact told_f rfl rfl rfl (below_set2 B3.out (by omega) _ _)


set_option maxRecDepth 100000 in
set_option maxHeartbeats 4000000 in
/-- **impl.FracLess**. -/
theorem implFracLess_as (a1 a2 b1 b2 : Int) (v : Bool) (w : World) (hf : lessB (a1, a2) (b1, b2) = v) :
    Calls Try.prog 27 #[.agg #[.int .i64 a1, .int .i64 a2], .agg #[.int .i64 b1, .int .i64 b2]] w fun e w' => e = .returned (.bool v) ∧ Below w.heap.size w w' := by
  have T0 := Lib.hid (Duo.new w a1 a2 b1 b2 26 26)
  have B0 := Lib.hid (two_allocs w (.cells #[.int .i64 a1, .int .i64 a2] 26) (.cells #[.int .i64 b1, .int .i64 b2] 26))
  cases ha : fracB (a1, a2)
  · obtain rfl : v = false := by rw [← hf]; simp [lessB, ha]
    have HA := Lib.hid ha
    clear ha hf
    go_enter Try.func27, Try.ntmps27
    go_wp2_with fail
    refine (valid_as a1 a2 false _ HA.out).mono ?_
    rintro e w1 ⟨rfl, hb⟩
    have B1 := Lib.hid (below_on B0.out hb)
    clear hb
    go_wp2
    go_ret
    exact ⟨rfl, B1.out⟩
  · cases hv : fracB (b1, b2)
    · obtain rfl : v = false := by rw [← hf]; simp [lessB, ha, hv]
      have HA := Lib.hid ha
      have HV := Lib.hid hv
      clear ha hv hf
      go_enter Try.func27, Try.ntmps27
      go_wp2_with fail
      refine (valid_as a1 a2 true _ HA.out).mono ?_
      rintro e w1 ⟨rfl, hb⟩
      have B1 := Lib.hid (below_on B0.out hb)
      have T1 := Lib.hid (T0.out.below hb)
      clear hb
      obtain ⟨⟨la, a0, a9, -, -⟩, ⟨lb, b0, b9, -, -⟩⟩ := T1.out
      go_wp2_with fail
      refine (valid_as b1 b2 false _ HV.out).mono ?_
      rintro e w2 ⟨rfl, hb⟩
      have B2 := Lib.hid (below_on B1.out hb)
      clear hb
      go_wp2
      go_ret
      exact ⟨rfl, B2.out⟩
    · have hl : lessF (a1, a2) (b1, b2) = v := by rw [← hf]; simp [lessB, ha, hv]
      have HA := Lib.hid ha
      have HV := Lib.hid hv
      have HL := Lib.hid hl
      clear ha hv hf hl
      go_enter Try.func27, Try.ntmps27
      go_wp2_with fail
      refine (valid_as a1 a2 true _ HA.out).mono ?_
      rintro e w1 ⟨rfl, hb⟩
      have B1 := Lib.hid (below_on B0.out hb)
      have T1 := Lib.hid (T0.out.below hb)
      clear hb
      obtain ⟨⟨la, a0, a9, -, -⟩, ⟨lb, b0, b9, -, -⟩⟩ := T1.out
      go_wp2_with fail
      refine (valid_as b1 b2 true _ HV.out).mono ?_
      rintro e w2 ⟨rfl, hb⟩
      have B2 := Lib.hid (below_on B1.out hb)
      have T2 := Lib.hid (T1.out.below hb)
      clear hb la a0 a9 lb b0 b9
      obtain ⟨⟨la, a0, a9, -, -⟩, ⟨lb, b0, b9, -, -⟩⟩ := T2.out
      go_wp2_with fail
      refine (less_as a1 a2 b1 b2 v _ HA.out HV.out HL.out).mono ?_
      rintro e w3 ⟨rfl, hb⟩
      have B3 := Lib.hid (below_on B2.out hb)
      clear hb
      go_wp2
      go_ret
      exact ⟨rfl, B3.out⟩

end Go.Proofs.Ytoancpdiilofmaa
