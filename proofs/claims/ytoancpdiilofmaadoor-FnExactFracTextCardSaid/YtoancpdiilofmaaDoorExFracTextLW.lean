/-
  laws.FnExactFracText returns true for every fraction: impl.FracText answers as the model does. Its condition: the three listed tables of the library hold what the program's text lays (tied by the card).
-/
import Derived.Test.YtoancpdiilofmaaDoorOpen
import Derived.Test.YtoancpdiilofmaaDoorTabI
import Derived.Test.YtoancpdiilofmaaDoorTextIF
import Derived.Test.YtoancpdiilofmaaDoorFracLt
namespace Go.Proofs.YtoancpdiilofmaaDoor.fnExactFracTextCard
open Go.RowKit
set_option linter.unusedVariables false


set_option maxRecDepth 100000 in
set_option maxHeartbeats 2000000 in
/-- The law's walk: it returns true, and writes nothing that was there. -/
theorem walk (a0 b0 : Int) (w : World) (w0 : (Lit.int .i64 a0).wf = true) (x0 : (Lit.int .i64 b0).wf = true) (hT0 : Tab w) :
    Calls Tryd.prog 4 #[.agg #[.int .i64 a0, .int .i64 b0]] w fun e w' => e = .returned (.bool true) ∧ Below w.heap.size w w' := by
  have LF := Lib.hid (Two.new w a0 b0 29)
  have hB0 : Below w.heap.size w (w.alloc (.cells #[.int .i64 a0, .int .i64 b0] 29)) := (Below.refl _ w).alloc (Nat.le_refl _) _
  have B0 := Lib.hid hB0
  have TT0 := Lib.hid (hT0.below hB0)
  obtain ⟨t, ht⟩ : ∃ t, textF (a0, b0) = t := ⟨_, rfl⟩
  have HT := Lib.hid ht
  have hne : (t.toList == t.toList) = true := by simp
  clear ht w0 x0 hB0 hT0
  obtain ⟨la, p0, p9, -, -⟩ := LF.out
  go_enter Tryd.func4, Tryd.ntmps4
  go_wp2_with fail
  refine (toFrac_any a0 b0 _).mono ?_
  rintro e w1 ⟨rfl, hb⟩
  have B1 := Lib.hid (below_on B0.out hb)
  have L1 := Lib.hid (LF.out.below hb)
  have TT1 := Lib.hid (TT0.out.below hb)
  clear hb la p0 p9
  go_wp2_with fail
  refine (specText_as a0 b0 t _ HT.out).mono ?_
  rintro e w2 ⟨rfl, hb⟩
  have B2 := Lib.hid (below_on B1.out hb)
  have L2 := Lib.hid (L1.out.below hb)
  have TT2 := Lib.hid (TT1.out.below hb)
  clear hb
  obtain ⟨la, p0, p9, -, -⟩ := L2.out
  go_wp2_with fail
  refine (toFrac_any a0 b0 _).mono ?_
  rintro e w3 ⟨rfl, hb⟩
  have B3 := Lib.hid (below_on B2.out hb)
  have TT3 := Lib.hid (TT2.out.below hb)
  clear hb la p0 p9
  go_wp2_with fail
  refine (implText_as a0 b0 t _ TT3.out HT.out).mono ?_
  rintro e w4 ⟨rfl, hb⟩
  have B4 := Lib.hid (below_on B3.out hb)
  clear hb
  go_wp2
  go_ret
  exact ⟨rfl, B4.out⟩

end Go.Proofs.YtoancpdiilofmaaDoor.fnExactFracTextCard
