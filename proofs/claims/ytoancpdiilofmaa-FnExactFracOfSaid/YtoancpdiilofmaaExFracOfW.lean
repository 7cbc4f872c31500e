/-
  laws.FnExactFracOf returns true for every two numbers: impl.FracOf answers as the model does. No condition.
-/
import Derived.Test.YtoancpdiilofmaaOpen
import Derived.Test.YtoancpdiilofmaaFracT
import Derived.Test.YtoancpdiilofmaaFracI
import Derived.Test.YtoancpdiilofmaaFracL
import Derived.Test.YtoancpdiilofmaaFracN
namespace Go.Proofs.Ytoancpdiilofmaa.fnExactFracOf
open Go.RowKit
set_option linter.unusedVariables false


set_option maxRecDepth 100000 in
set_option maxHeartbeats 2000000 in
/-- The law's walk: it returns true, and writes nothing that was there. -/
theorem walk (a0 : Int) (a1 : Int) (w : World) (w0 : (Lit.int .i64 a0).wf = true) (w1 : (Lit.int .i64 a1).wf = true) :
    Calls Try.prog 12 #[.int .i64 a0, .int .i64 a1] w fun e w' => e = .returned (.bool true) ∧ Below w.heap.size w w' := by
  obtain ⟨x, y, hxy⟩ : ∃ x y, ofR a0 a1 = (x, y) := ⟨_, _, rfl⟩
  obtain ⟨ok, hok⟩ : ∃ ok, ofOk a0 a1 = ok := ⟨_, rfl⟩
  have HX := Lib.hid hxy
  have HO := Lib.hid hok
  clear hxy hok w0 w1
  have hnn : (ok != ok) = false := by simp
  go_enter Try.func12, Try.ntmps12
  go_wp2_with fail
  refine (specFracOf_as a0 a1 x y ok _ HX.out HO.out).mono ?_
  rintro e v1 ⟨rfl, hb⟩
  have B1 := Lib.hid (below_on (Below.refl _ w) hb)
  clear hb
  go_wp2_with fail
  refine (implFracOf_as a0 a1 x y ok _ HX.out HO.out).mono ?_
  rintro e v2 ⟨rfl, hb⟩
  have T2_0 := Lib.hid ((Two.new v1 x y 26).below hb)
  have B2 := Lib.hid (below_on (below_more B1.out (.cells #[.int .i64 x, .int .i64 y] 26)) hb)
  clear hb
  obtain ⟨l0, c0, d0, -, -⟩ := T2_0.out
  go_wp2_with fail
  refine (eqFrac_as x y x y true _ (eqF_self x y)).mono ?_
  rintro e v3 ⟨rfl, hb⟩
  have T3_0 := Lib.hid ((T2_0.out.alloc (.cells #[.int .i64 x, .int .i64 y] 26)).below hb)
  have T3_1 := Lib.hid ((Two.new v2 x y 26).below hb)
  have B3 := Lib.hid (below_on (below_more B2.out (.cells #[.int .i64 x, .int .i64 y] 26)) hb)
  clear l0 c0 d0
  clear hb
  obtain ⟨l0, c0, d0, -, -⟩ := T3_0.out
  obtain ⟨l1, c1, d1, -, -⟩ := T3_1.out
  go_wp2
  go_ret
  exact ⟨rfl, B3.out⟩

end Go.Proofs.Ytoancpdiilofmaa.fnExactFracOf
