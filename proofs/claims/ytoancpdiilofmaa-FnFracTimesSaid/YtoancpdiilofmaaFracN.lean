/-
  Two fractions compared with == and !=. Of no function.
-/
import Derived.Test.YtoancpdiilofmaaFracL
import Derived.Laws.StructEq
namespace Go.Proofs.Ytoancpdiilofmaa
open Go.RowKit

theorem frac_under : Try.prog.underlying 26 = some (.struct (Try.prog.fieldsOf 26)) := by kernel_rfl
theorem frac_stood : Try.prog.stoodInHeld 26 = false := by kernel_rfl
theorem frac_guard : Try.prog.eqGuardType Try.prog.depth 26 = false := by kernel_rfl

theorem run_neqF (a1 a2 b1 b2 : Int) (v : Bool) (hv : (!eqF a1 a2 b1 b2) = v) (w : World) : (binOp .neq 26 (.agg #[.int .i64 a1, .int .i64 a2]) (.agg #[.int .i64 b1, .int .i64 b2])).run Try.prog w = .ok (.bool v) w := by
  subst hv
  rw [run_neq_struct, run_equalIn_agg _ _ _ _ _ frac_under frac_stood]
  simp [go_sem, Program.fieldsOf, Try.underlying26, Try.underlying3, Op.eqFields, eqF]
  by_cases h : a1 = b1
  · subst h
    by_cases h2 : a2 = b2 <;> simp [h2]
  · simp [h]
theorem run_eqF (a1 a2 b1 b2 : Int) (v : Bool) (hv : eqF a1 a2 b1 b2 = v) (w : World) : (binOp .eql 26 (.agg #[.int .i64 a1, .int .i64 a2]) (.agg #[.int .i64 b1, .int .i64 b2])).run Try.prog w = .ok (.bool v) w := by
  subst hv
  rw [run_eql_struct, run_equalIn_agg _ _ _ _ _ frac_under frac_stood]
  simp [go_sem, Program.fieldsOf, Try.underlying26, Try.underlying3, Op.eqFields, eqF]
  by_cases h : a1 = b1
  · subst h
    by_cases h2 : a2 = b2 <;> simp [h2]
  · simp [h]
theorem run_guardF (op : BinOp) (x y : Operand) (xs ys : Array Value) (w : World) : (eqGuard op 26 x y (.agg xs) (.agg ys)).run Try.prog w = .ok () w := run_eqGuard_agg w op _ x y xs ys frac_guard
theorem eqF_self (x y : Int) : eqF x y x y = true := by simp [eqF]
theorem eqF_of {a b : Fr} (h : a = b) : eqF a.1 a.2 b.1 b.2 = true := by subst h; simp [eqF]
theorem eqF_iff (a1 a2 b1 b2 : Int) : eqF a1 a2 b1 b2 = decide ((a1, a2) = (b1, b2)) := by
  rw [Bool.eq_iff_iff]; simp [eqF]
theorem below_more {w w1 : World} (h : Below w.heap.size w w1) (o : Obj) : Below w.heap.size w (w1.alloc o) := below_on h ((Below.refl _ w1).alloc (Nat.le_refl _) o)

end Go.Proofs.Ytoancpdiilofmaa
