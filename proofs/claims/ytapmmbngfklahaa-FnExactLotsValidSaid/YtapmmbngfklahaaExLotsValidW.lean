/-
  laws.FnExactLotsValid returns true for every list: impl.LotsValid answers as the model does, and writes into no argument. No condition but what the statement says itself (at most 2^20 elements).
-/
import Derived.Test.YtapmmbngfklahaaOpen
import Derived.Test.YtapmmbngfklahaaLotS
import Derived.Test.YtapmmbngfklahaaLotI
import Derived.Test.YtapmmbngfklahaaLaws
namespace Go.Proofs.Ytapmmbngfklahaa.fnExactLotsValid
open Go.RowKit
set_option linter.unusedVariables false


set_option maxRecDepth 100000 in
set_option maxHeartbeats 2000000 in
/-- The law's walk: it returns true, and writes nothing that was there. -/
theorem walk (a0 : Option Addr) (len0 cap0 : Nat) (z0 : List Int) (w : World) (w0 : IsRow .i64 w a0 len0 cap0 z0) :
    Calls Try.prog 9 #[.slice a0 len0 cap0] w fun e w' => e = .returned (.bool true) ∧ Below w.heap.size w w' := by
  by_cases hl : len0 ≤ 1048576
  · have HI := w0.ints hl
    obtain ⟨zs, hzs⟩ : ∃ zs, z0.take len0 = zs := ⟨_, rfl⟩
    rw [hzs] at HI
    have H := Lib.hid HI
    clear HI hzs w0
    obtain ⟨v, hv⟩ : ∃ v, lotsB zs = v := ⟨_, rfl⟩
    have Hv := Lib.hid hv; clear hv
    have hne : (v != v) = false := by cases v <;> rfl
    have he2 : eqB zs zs = true := eqB_self zs
    go_enter Try.func9, Try.ntmps9
    go_wp2_with fail
    refine (toIntS_any _ _ _ zs _ H.out).mono ?_
    rintro e w1 ⟨g, rfl, ho, hb⟩
    have O1 := Lib.hid (IsInts.of_owns ho (by omega)); clear ho
    have B1 := Lib.hid hb; clear hb
    go_wp2_with fail
    refine (specLots_any _ _ _ zs _ O1.out).mono ?_
    rintro e w2 ⟨he, hd⟩
    rw [Hv.out] at he
    subst he
    have B2 := Lib.hid (B1.out.trans (hd.below _)); clear hd O1 B1
    go_wp2_with fail
    refine (toIntS_any _ _ _ zs _ (H.out.below B2.out)).mono ?_
    rintro e w3 ⟨gx, rfl, ho, hb⟩
    have X3 := Lib.hid (IsInts.of_owns ho (by omega)); clear ho
    have B3 := Lib.hid (B2.out.trans (hb.mono B2.out.size)); clear hb B2
    go_wp2_with fail
    refine (implLots_any _ _ _ zs _ X3.out).mono ?_
    rintro e w4 ⟨he, hb⟩
    rw [Hv.out] at he
    subst he
    have X4 := Lib.hid (X3.out.below hb)
    have B4 := Lib.hid (B3.out.trans (hb.mono B3.out.size)); clear hb B3 X3
    go_wp2_with fail
    refine (toIntS_any _ _ _ zs _ (H.out.below B4.out)).mono ?_
    rintro e w5 ⟨g5, rfl, ho, hb⟩
    have I5 := Lib.hid (IsInts.of_owns ho (by omega)); clear ho
    have X5 := Lib.hid (X4.out.below hb)
    have B5 := Lib.hid (B4.out.trans (hb.mono B4.out.size)); clear hb B4 X4
    go_wp2_with fail
    refine (eqIntS_any _ _ _ zs _ _ _ zs _ X5.out I5.out).mono ?_
    rintro e w6 ⟨rfl, hd⟩
    have B6 := Lib.hid (B5.out.trans (hd.below _)); clear hd B5
    go_wp2
    go_ret
    exact ⟨rfl, B6.out⟩
  · have hl' : (1048576 : Int) < (len0 : Int) := by omega
    clear w0
    go_enter Try.func9, Try.ntmps9
    go_wp2
    go_ret
    exact ⟨rfl, Below.refl _ _⟩

end Go.Proofs.Ytapmmbngfklahaa.fnExactLotsValid
