/-
  laws.FnExactTransferQuota returns true for every two numbers: impl.TransferQuota answers as the model does. Without any condition.
-/
import Derived.Test.YteomnjakcnfchaaOpen
import Derived.Test.YteomnjakcnfchaaTfU
namespace Go.Proofs.Yteomnjakcnfchaa.fnExactTransferQuota
open Go.RowKit
set_option linter.unusedVariables false


set_option maxRecDepth 100000 in
set_option maxHeartbeats 2000000 in
/-- The law's walk: it returns true, and writes nothing that was there. -/
theorem walk (a0 : Int) (a1 : Int) (w : World) (w0 : (Lit.int .i64 a0).wf = true) (w1 : (Lit.int .i64 a1).wf = true) :
    Calls Try.prog 11 #[.int .i64 a0, .int .i64 a1] w fun e w' => e = .returned (.bool true) ∧ Below w.heap.size w w' := by
  obtain ⟨v, hv⟩ : ∃ v, quoR a0 a1 = v := ⟨_, rfl⟩
  have Hv := Lib.hid hv; clear hv w0 w1
  have hne : (v != v) = false := by simp
  go_enter Try.func11, Try.ntmps11
  go_wp2_with fail
  refine (specQuota_as a0 a1 v _ Hv.out).mono ?_
  rintro e w1 ⟨rfl, rfl⟩
  go_wp2_with fail
  refine (implQuota_as a0 a1 v _ Hv.out).mono ?_
  rintro e w1 ⟨rfl, rfl⟩
  go_wp2
  go_ret
  exact ⟨rfl, Below.refl _ _⟩

end Go.Proofs.Yteomnjakcnfchaa.fnExactTransferQuota
