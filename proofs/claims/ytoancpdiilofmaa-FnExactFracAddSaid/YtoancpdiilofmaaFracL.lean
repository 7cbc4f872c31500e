/-
  laws.toFrac and laws.eqFrac: a fraction that came in as one of the program, two fractions compared. No condition.
-/
import Derived.Test.YtoancpdiilofmaaFracS
import Derived.Test.YtoancpdiilofmaaTwo
namespace Go.Proofs.Ytoancpdiilofmaa
open Go.RowKit

set_option maxRecDepth 100000 in
set_option maxHeartbeats 2000000 in
/-- **toFrac**. -/
theorem toFrac_any (x y : Int) (w : World) :
    Calls Try.prog 31 #[.agg #[.int .i64 x, .int .i64 y]] w fun e w' => e = .returned (.agg #[.int .i64 x, .int .i64 y]) ∧ Below w.heap.size w w' := by
  go_enter Try.func31, Try.ntmps31
  go_wp2
  go_returns
  exact ⟨rfl, by go_grown⟩

def eqF (a1 a2 b1 b2 : Int) : Bool := decide (a1 = b1) && decide (a2 = b2)
set_option maxRecDepth 100000 in
set_option maxHeartbeats 2000000 in
/-- **eqFrac**. -/
theorem eqFrac_as (a1 a2 b1 b2 : Int) (v : Bool) (w : World) (hv : eqF a1 a2 b1 b2 = v) :
    Calls Try.prog 32 #[.agg #[.int .i64 a1, .int .i64 a2], .agg #[.int .i64 b1, .int .i64 b2]] w fun e w' => e = .returned (.bool v) ∧ Below w.heap.size w w' := by
  subst hv
  by_cases h1 : a1 = b1
  · have n1 : (a1 != b1) = false := by simpa using h1
    by_cases h2 : a2 = b2
    · have n2 : (a2 != b2) = false := by simpa using h2
      have e : eqF a1 a2 b1 b2 = true := by simp [eqF, h1, h2]
      rw [e]; clear e h1 h2
      go_enter Try.func32, Try.ntmps32
      go_wp2
      go_ret
      exact ⟨rfl, by go_grown⟩
    · have n2 : (a2 != b2) = true := by simpa using h2
      have e : eqF a1 a2 b1 b2 = false := by simp [eqF, h2]
      rw [e]; clear e h1 h2
      go_enter Try.func32, Try.ntmps32
      go_wp2
      go_ret
      exact ⟨rfl, by go_grown⟩
  · have n1 : (a1 != b1) = true := by simpa using h1
    have e : eqF a1 a2 b1 b2 = false := by simp [eqF, h1]
    rw [e]; clear e h1
    go_enter Try.func32, Try.ntmps32
    go_wp2
    go_ret
    exact ⟨rfl, by go_grown⟩

end Go.Proofs.Ytoancpdiilofmaa
