/-
  laws.FnExactFracLess returns true for every two fractions: impl.FracLess answers as the model does. No condition.
-/
import Derived.Test.YtoancpdiilofmaaOpen
import Derived.Test.YtoancpdiilofmaaFracT
import Derived.Test.YtoancpdiilofmaaFracI
import Derived.Test.YtoancpdiilofmaaFracL
import Derived.Test.YtoancpdiilofmaaFracN
namespace Go.Proofs.Ytoancpdiilofmaa.fnExactFracLess
open Go.RowKit
set_option linter.unusedVariables false


set_option maxRecDepth 100000 in
set_option maxHeartbeats 2000000 in
/-- The law's walk: it returns true, and writes nothing that was there. -/
theorem walk (a0 b0 : Int) (a1 b1 : Int) (w : World) (w0 : (Lit.int .i64 a0).wf = true) (x0 : (Lit.int .i64 b0).wf = true) (w1 : (Lit.int .i64 a1).wf = true) (x1 : (Lit.int .i64 b1).wf = true) :
    Calls Try.prog 15 #[.agg #[.int .i64 a0, .int .i64 b0], .agg #[.int .i64 a1, .int .i64 b1]] w fun e w' => e = .returned (.bool true) ∧ Below w.heap.size w w' := by
  obtain ⟨v, hv⟩ : ∃ v, lessB (a0, b0) (a1, b1) = v := ⟨_, rfl⟩
  have HV := Lib.hid hv
  clear hv w0 x0 w1 x1
  have hnn : (v != v) = false := by simp
  have T0 := Lib.hid (Duo.new w a0 b0 a1 b1 36 36)
  have B0 := Lib.hid (two_allocs w (.cells #[.int .i64 a0, .int .i64 b0] 36) (.cells #[.int .i64 a1, .int .i64 b1] 36))
  go_enter Try.func15, Try.ntmps15
  obtain ⟨⟨la0, p0, q0, -, -⟩, ⟨lb0, r0, s0, -, -⟩⟩ := T0.out
  have u0 : ∀ u : Beh ((w.alloc (.cells #[.int .i64 a0, .int .i64 b0] 36)).alloc (.cells #[.int .i64 a1, .int .i64 b1] 36)), u.w.cell? ⟨w.heap.size, 0, none⟩ = some (.int .i64 a0) := Beh.cell p0 la0
  have u9 : ∀ u : Beh ((w.alloc (.cells #[.int .i64 a0, .int .i64 b0] 36)).alloc (.cells #[.int .i64 a1, .int .i64 b1] 36)), u.w.cell? ⟨w.heap.size, 1, none⟩ = some (.int .i64 b0) := Beh.cell q0 la0
  have v0 : ∀ u : Beh ((w.alloc (.cells #[.int .i64 a0, .int .i64 b0] 36)).alloc (.cells #[.int .i64 a1, .int .i64 b1] 36)), u.w.cell? ⟨w.heap.size + 1, 0, none⟩ = some (.int .i64 a1) := Beh.cell r0 lb0
  have v9 : ∀ u : Beh ((w.alloc (.cells #[.int .i64 a0, .int .i64 b0] 36)).alloc (.cells #[.int .i64 a1, .int .i64 b1] 36)), u.w.cell? ⟨w.heap.size + 1, 1, none⟩ = some (.int .i64 b1) := Beh.cell s0 lb0
  go_wp2_with fail
  refine wp_region_below (by kernel_rfl) (by kernel_rfl) ?_
  repeat (go_big_quiet_step ((first | (go_at_call 31; exact Calls.beh (toFrac_any _ _ _)) | (go_at_call 28; exact Calls.beh (specFracLess_as a0 b0 a1 b1 v _ HV.out)))))
  refine wpQuiet_nil ?_
  intro wa hwa
  have hb : Below (((w.alloc (.cells #[.int .i64 a0, .int .i64 b0] 36)).alloc (.cells #[.int .i64 a1, .int .i64 b1] 36))).heap.size (((w.alloc (.cells #[.int .i64 a0, .int .i64 b0] 36)).alloc (.cells #[.int .i64 a1, .int .i64 b1] 36))) wa := by obtain ⟨⟨w9, hb⟩, rfl⟩ := hwa; exact hb
  clear hwa
  have T1 := Lib.hid (T0.out.below hb)
  have B1 := Lib.hid (below_on B0.out hb)
  clear hb u0 u9 v0 v9 la0 p0 q0 lb0 r0 s0
  obtain ⟨⟨la1, p1, q1, -, -⟩, ⟨lb1, r1, s1, -, -⟩⟩ := T1.out
  have u0 : ∀ u : Beh wa, u.w.cell? ⟨w.heap.size, 0, none⟩ = some (.int .i64 a0) := Beh.cell p1 la1
  have u9 : ∀ u : Beh wa, u.w.cell? ⟨w.heap.size, 1, none⟩ = some (.int .i64 b0) := Beh.cell q1 la1
  have v0 : ∀ u : Beh wa, u.w.cell? ⟨w.heap.size + 1, 0, none⟩ = some (.int .i64 a1) := Beh.cell r1 lb1
  have v9 : ∀ u : Beh wa, u.w.cell? ⟨w.heap.size + 1, 1, none⟩ = some (.int .i64 b1) := Beh.cell s1 lb1
  go_wp2_with fail
  refine wp_region_below (by kernel_rfl) (by kernel_rfl) ?_
  repeat (go_big_quiet_step ((first | (go_at_call 31; exact Calls.beh (toFrac_any _ _ _)) | (go_at_call 27; exact Calls.beh (implFracLess_as a0 b0 a1 b1 v _ HV.out)))))
  refine wpQuiet_nil ?_
  intro wb hwa
  have hb : Below (wa).heap.size (wa) wb := by obtain ⟨⟨w9, hb⟩, rfl⟩ := hwa; exact hb
  clear hwa
  have B2 := Lib.hid (below_on B1.out hb)
  clear hb u0 u9 v0 v9 la1 p1 q1 lb1 r1 s1
  go_wp2
  go_ret
  exact ⟨rfl, B2.out⟩

end Go.Proofs.Ytoancpdiilofmaa.fnExactFracLess
