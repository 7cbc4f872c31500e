/-
  laws.FnExactFracValid returns true for every fraction: impl.FracValid answers as the model does. No condition.
-/
import Derived.Test.YtoancpdiilofmaaOpen
import Derived.Test.YtoancpdiilofmaaFracT
import Derived.Test.YtoancpdiilofmaaFracI
import Derived.Test.YtoancpdiilofmaaFracL
import Derived.Test.YtoancpdiilofmaaFracN
namespace Go.Proofs.Ytoancpdiilofmaa.fnExactFracValid
open Go.RowKit
set_option linter.unusedVariables false


set_option maxRecDepth 100000 in
set_option maxHeartbeats 2000000 in
/-- The law's walk: it returns true, and writes nothing that was there. -/
theorem walk (a0 b0 : Int) (w : World) (w0 : (Lit.int .i64 a0).wf = true) (x0 : (Lit.int .i64 b0).wf = true) :
    Calls Try.prog 11 #[.agg #[.int .i64 a0, .int .i64 b0]] w fun e w' => e = .returned (.bool true) ∧ Below w.heap.size w w' := by
  obtain ⟨v, hv⟩ : ∃ v, fracB (a0, b0) = v := ⟨_, rfl⟩
  have HV := Lib.hid hv
  clear hv w0 x0
  have hnn : (v != v) = false := by simp
  go_enter Try.func11, Try.ntmps11
  go_wp2_with fail
  refine (toFrac_any a0 b0 _).mono ?_
  rintro e w1 ⟨rfl, hb⟩
  have T1_0 := Lib.hid ((Two.new w a0 b0 36).below hb)
  have B1 := Lib.hid (below_on (below_more (Below.refl _ w) (.cells #[.int .i64 a0, .int .i64 b0] 36)) hb)
  clear hb
  obtain ⟨l0, c0, d0, -, -⟩ := T1_0.out
  go_wp2_with fail
  refine (specFrac_as a0 b0 v _ HV.out).mono ?_
  rintro e w2 ⟨rfl, hb⟩
  have T2_0 := Lib.hid (T1_0.out.below hb)
  have B2 := Lib.hid (below_on B1.out hb)
  clear l0 c0 d0
  clear hb
  obtain ⟨l0, c0, d0, -, -⟩ := T2_0.out
  go_wp2_with fail
  refine (toFrac_any a0 b0 _).mono ?_
  rintro e w3 ⟨rfl, hb⟩
  have T3_0 := Lib.hid (T2_0.out.below hb)
  have B3 := Lib.hid (below_on B2.out hb)
  clear l0 c0 d0
  clear hb
  obtain ⟨l0, c0, d0, -, -⟩ := T3_0.out
  go_wp2_with fail
  refine (implFrac_as a0 b0 v _ HV.out).mono ?_
  rintro e w4 ⟨rfl, hb⟩
  have T4_0 := Lib.hid (T3_0.out.below hb)
  have B4 := Lib.hid (below_on B3.out hb)
  clear l0 c0 d0
  clear hb
  obtain ⟨l0, c0, d0, -, -⟩ := T4_0.out
  go_wp2
  go_ret
  exact ⟨rfl, B4.out⟩

end Go.Proofs.Ytoancpdiilofmaa.fnExactFracValid
