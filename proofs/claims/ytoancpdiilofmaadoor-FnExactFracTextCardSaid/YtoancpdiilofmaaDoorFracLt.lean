/-
  laws.toFrac: a fraction that came in as one of the program. No condition.
-/
import Derived.Test.YtoancpdiilofmaaDoorFracS
import Derived.Test.YtoancpdiilofmaaDoorTwo
namespace Go.Proofs.YtoancpdiilofmaaDoor
open Go.RowKit

set_option maxRecDepth 100000 in
set_option maxHeartbeats 2000000 in
/-- **toFrac**. -/
theorem toFrac_any (x y : Int) (w : World) :
    Calls Tryd.prog 9 #[.agg #[.int .i64 x, .int .i64 y]] w fun e w' => e = .returned (.agg #[.int .i64 x, .int .i64 y]) ∧ Below w.heap.size w w' := by
  go_enter Tryd.func9, Tryd.ntmps9
  go_wp2
  go_returns
  exact ⟨rfl, by go_grown⟩

end Go.Proofs.YtoancpdiilofmaaDoor
