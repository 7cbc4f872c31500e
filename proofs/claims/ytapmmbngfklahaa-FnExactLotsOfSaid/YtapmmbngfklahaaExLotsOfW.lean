/-
  laws.FnExactLotsOf returns true for every number of candidates and every seed: impl.LotsOf answers as the model does, and what it returns is memory of its own. No condition.
-/
import Derived.Test.YtapmmbngfklahaaOpen
import Derived.Test.YtapmmbngfklahaaLotOS
import Derived.Test.YtapmmbngfklahaaLotOI
import Derived.Test.YtapmmbngfklahaaLaws
import Derived.Test.YtapmmbngfklahaaMark
namespace Go.Proofs.Ytapmmbngfklahaa.fnExactLotsOf
open Go.RowKit
set_option linter.unusedVariables false


set_option maxRecDepth 100000 in
set_option maxHeartbeats 2000000 in
/-- The law's walk: it returns true, and writes nothing that was there. -/
theorem walk (a0 : Int) (a1 : Int) (w : World) (w0 : (Lit.int .i64 a0).wf = true) (w1 : (Lit.int .i64 a1).wf = true) :
    Calls Try.prog 10 #[.int .i64 a0, .int .i64 a1] w fun e w' => e = .returned (.bool true) ∧ Below w.heap.size w w' := by
  obtain ⟨pl, hpl⟩ : ∃ pl, lotsI a0 a1 = pl := ⟨_, rfl⟩
  obtain ⟨ok, hok⟩ : ∃ ok, okLots a0 a1 = ok := ⟨_, rfl⟩
  have hp5 : pl.length ≤ 5 := by rw [← hpl]; exact lotsI_short a0 a1
  have HP := Lib.hid hpl
  have HK := Lib.hid hok
  clear hpl hok w0 w1
  have he : eqB pl pl = true := eqB_self pl
  have hne : (ok != ok) = false := by cases ok <;> rfl
  have hnn : ¬ (1 + (pl.length : Int) < 0) := by omega
  have hnq : ((1 + (pl.length : Int)) != (1 + (pl.length : Int))) = false := by simp
  go_enter Try.func10, Try.ntmps10
  go_wp2_with fail
  refine (specLotsOf_as _ _ pl ok _ HP.out HK.out).mono ?_
  rintro e w1 ⟨a1', c1, rfl, ho, hb⟩
  have I1 := Lib.hid (IsInts.of_owned ho (by omega)); clear ho
  have B1 := Lib.hid hb; clear hb
  go_wp2_with fail
  refine (implLotsOf_as _ _ pl ok _ HP.out HK.out).mono ?_
  rintro e w2 ⟨a2, c2, rfl, ho, hb⟩
  have O2 := Lib.hid ho; clear ho
  have C2 := Lib.hid hb; clear hb
  go_wp2_with fail
  refine (eqIntS_any _ _ _ pl _ _ _ pl _ (IsInts.of_owned O2.out (by omega)) (I1.out.below C2.out)).mono ?_
  rintro e w3 ⟨rfl, hd⟩
  have O3 := Lib.hid (owns_under O2.out (hd.below _))
  have C3 := Lib.hid (C2.out.trans (hd.below _)); clear hd O2 C2
  go_wp2_with fail
  refine (markInt_any w1.heap.size _ _ _ _ 1 _ O3.out (by omega) (by omega) (by omega)).mono ?_
  rintro e w4 ⟨rfl, ho, hb⟩
  have O4 := Lib.hid ho; clear ho O3
  have C4 := Lib.hid (C3.out.trans hb); clear C3 hb
  go_wp2_with fail
  refine (heldInt_any _ _ _ 1 _ (IsInts.of_owned O4.out (by omega)) (by omega) (by omega)).mono ?_
  rintro e w5 ⟨rfl, rfl⟩
  go_wp2_with fail
  refine (implLotsOf_as _ _ pl ok _ HP.out HK.out).mono ?_
  rintro e w6 ⟨a6, c6, rfl, ho, hb⟩
  have I6 := Lib.hid (IsInts.of_owned ho (by omega)); clear ho
  have O6 := Lib.hid (owns_under O4.out hb)
  have C6 := Lib.hid (C4.out.trans (hb.mono C4.out.size)); clear hb O4 C4
  go_wp2_with fail
  refine (eqIntS_any _ _ _ pl _ _ _ pl _ I6.out (I1.out.below C6.out)).mono ?_
  rintro e w7 ⟨rfl, hd⟩
  have O7 := Lib.hid (owns_under O6.out (hd.below _))
  have C7 := Lib.hid (C6.out.trans (hd.below _)); clear hd O6 C6
  go_wp2_with fail
  refine (heldInt_any _ _ _ 1 _ (IsInts.of_owned O7.out (by omega)) (by omega) (by omega)).mono ?_
  rintro e w8 ⟨rfl, rfl⟩
  go_wp2
  go_ret
  exact ⟨rfl, B1.out.trans (C7.out.mono B1.out.size)⟩

end Go.Proofs.Ytapmmbngfklahaa.fnExactLotsOf
