/-
  laws.FnExactLotsSeal returns true for every seed and every secret: impl.LotsSeal answers as the model does. No condition.
-/
import Derived.Test.YtapmmbngfklahaaOpen
import Derived.Test.YtapmmbngfklahaaLotS
import Derived.Test.YtapmmbngfklahaaLotI
namespace Go.Proofs.Ytapmmbngfklahaa.fnExactLotsSeal
open Go.RowKit
set_option linter.unusedVariables false


set_option maxRecDepth 100000 in
set_option maxHeartbeats 2000000 in
/-- The law's walk: it returns true, and writes nothing that was there. -/
theorem walk (a0 : Int) (a1 : Int) (w : World) (w0 : (Lit.int .i64 a0).wf = true) (w1 : (Lit.int .i64 a1).wf = true) :
    Calls Try.prog 12 #[.int .i64 a0, .int .i64 a1] w fun e w' => e = .returned (.bool true) ∧ Below w.heap.size w w' := by
  obtain ⟨v, hv⟩ : ∃ v, sealB a0 a1 = v := ⟨_, rfl⟩
  have Hv := Lib.hid hv; clear hv w0 w1
  have hne : (v != v) = false := by simp
  go_enter Try.func12, Try.ntmps12
  go_wp2_with fail
  refine (specSeal_any _ _ _).mono ?_
  rintro e w1 ⟨he, rfl⟩
  rw [Hv.out] at he
  subst he
  go_wp2_with fail
  refine (implSeal_any _ _ _).mono ?_
  rintro e w1 ⟨he, rfl⟩
  rw [Hv.out] at he
  subst he
  go_wp2
  go_ret
  exact ⟨rfl, Below.refl _ _⟩

end Go.Proofs.Ytapmmbngfklahaa.fnExactLotsSeal
