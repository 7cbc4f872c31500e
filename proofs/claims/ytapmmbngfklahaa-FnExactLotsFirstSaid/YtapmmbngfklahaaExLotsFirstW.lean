/-
  laws.FnExactLotsFirst returns true for every list and every list of bools: impl.LotsFirst answers as the model does, and writes into no argument. No condition but what the statement says itself (at most 2^20 elements each).
-/
import Derived.Test.YtapmmbngfklahaaOpen
import Derived.Test.YtapmmbngfklahaaLotS
import Derived.Test.YtapmmbngfklahaaLotI
import Derived.Test.YtapmmbngfklahaaLaws
import Derived.Test.YtapmmbngfklahaaLawsB
namespace Go.Proofs.Ytapmmbngfklahaa.fnExactLotsFirst
open Go.RowKit
set_option linter.unusedVariables false


set_option maxRecDepth 100000 in
set_option maxHeartbeats 2000000 in
/-- The law's walk: it returns true, and writes nothing that was there. -/
theorem walk (a0 : Option Addr) (len0 cap0 : Nat) (z0 : List Int) (a1 : Option Addr) (len1 cap1 : Nat) (z1 : Nat → Bool) (w : World) (w0 : IsRow .i64 w a0 len0 cap0 z0) (w1 : IsBoolRow w a1 len1 cap1 z1) :
    Calls Try.prog 11 #[.slice a0 len0 cap0, .slice a1 len1 cap1] w fun e w' => e = .returned (.bool true) ∧ Below w.heap.size w w' := by
  by_cases hl : len0 ≤ 1048576
  · by_cases hl' : len1 ≤ 1048576
    · have HI := w0.ints hl
      have HL := w1.bools hl'
      obtain ⟨zs, hzs⟩ : ∃ zs, z0.take len0 = zs := ⟨_, rfl⟩
      obtain ⟨L, hL⟩ : ∃ L, (List.range len1).map z1 = L := ⟨_, rfl⟩
      rw [hzs] at HI
      rw [hL] at HL
      have H := Lib.hid HI
      have G := Lib.hid HL
      clear HI HL hzs hL w0 w1
      go_enter Try.func11, Try.ntmps11
      go_wp2_with fail
      refine (toIntS_any _ _ _ zs _ H.out).mono ?_
      rintro e w1 ⟨g, rfl, ho, hb⟩
      have O1 := Lib.hid (IsInts.of_owns ho (by omega)); clear ho
      have B1 := Lib.hid hb; clear hb
      go_wp2_with fail
      refine (toBoolS_any _ _ _ L _ (G.out.below B1.out)).mono ?_
      rintro e w2 ⟨g2, rfl, ho, hb⟩
      have O2 := Lib.hid (IsBools.of_owns ho (by omega)); clear ho
      have O1' := Lib.hid (O1.out.below hb); clear O1
      have B2 := Lib.hid (B1.out.trans (hb.mono B1.out.size)); clear hb B1
      go_wp2_with fail
      refine (specPick_any _ _ _ zs _ _ _ L _ O1'.out O2.out).mono ?_
      rintro e w3 ⟨rfl, hd⟩
      have B3 := Lib.hid (B2.out.trans (hd.below _)); clear hd B2 O1' O2
      go_wp2_with fail
      refine (toIntS_any _ _ _ zs _ (H.out.below B3.out)).mono ?_
      rintro e w4 ⟨g4, rfl, ho, hb⟩
      have O4 := Lib.hid (IsInts.of_owns ho (by omega)); clear ho
      have B4 := Lib.hid (B3.out.trans (hb.mono B3.out.size)); clear hb B3
      go_wp2_with fail
      refine (toBoolS_any _ _ _ L _ (G.out.below B4.out)).mono ?_
      rintro e w5 ⟨g5, rfl, ho, hb⟩
      have O5 := Lib.hid (IsBools.of_owns ho (by omega)); clear ho
      have O4' := Lib.hid (O4.out.below hb); clear O4
      have B5 := Lib.hid (B4.out.trans (hb.mono B4.out.size)); clear hb B4
      go_wp2_with fail
      refine (implPick_any _ _ _ zs _ _ _ L _ O4'.out O5.out).mono ?_
      rintro e w6 ⟨rfl, hb⟩
      have P4 := Lib.hid (O4'.out.below hb); clear O4'
      have P5 := Lib.hid (O5.out.below hb); clear O5
      have B6 := Lib.hid (B5.out.trans (hb.mono B5.out.size)); clear hb B5
      have hne : (pickB zs L != pickB zs L) = false := by simp
      go_wp2_with fail
      refine (toIntS_any _ _ _ zs _ (H.out.below B6.out)).mono ?_
      rintro e w7 ⟨g7, rfl, ho, hb⟩
      have O7 := Lib.hid (IsInts.of_owns ho (by omega)); clear ho
      have P4' := Lib.hid (P4.out.below hb); clear P4
      have P5' := Lib.hid (P5.out.below hb); clear P5
      have B7 := Lib.hid (B6.out.trans (hb.mono B6.out.size)); clear hb B6
      go_wp2_with fail
      refine (eqIntS_any _ _ _ zs _ _ _ zs _ P4'.out O7.out).mono ?_
      rintro e w8 ⟨rfl, hd⟩
      have P5 := Lib.hid (P5'.out.below (hd.below _)); clear P5'
      have B8 := Lib.hid (B7.out.trans (hd.below _)); clear hd B7
      have he : eqB zs zs = true := eqB_self zs
      go_wp2_with fail
      refine (toBoolS_any _ _ _ L _ (G.out.below B8.out)).mono ?_
      rintro e w9 ⟨g9, rfl, ho, hb⟩
      have O9 := Lib.hid (IsBools.of_owns ho (by omega)); clear ho
      have P5' := Lib.hid (P5.out.below hb); clear P5
      have B9 := Lib.hid (B8.out.trans (hb.mono B8.out.size)); clear hb B8
      go_wp2_with fail
      refine (eqBoolS_any _ _ _ L _ _ _ L _ P5'.out O9.out).mono ?_
      rintro e w10 ⟨rfl, hd⟩
      have B10 := B9.out.trans (hd.below _)
      have he' : eqBB L L = true := eqBB_self L
      go_wp2
      go_ret
      exact ⟨rfl, B10⟩
    · have hl2 : (1048576 : Int) < (len1 : Int) := by omega
      have hl3 : (len0 : Int) ≤ 1048576 := by omega
      clear w0 w1
      go_enter Try.func11, Try.ntmps11
      go_wp2
      go_ret
      exact ⟨rfl, Below.refl _ _⟩
  · have hl2 : (1048576 : Int) < (len0 : Int) := by omega
    clear w0 w1
    go_enter Try.func11, Try.ntmps11
    go_wp2
    go_ret
    exact ⟨rfl, Below.refl _ _⟩

end Go.Proofs.Ytapmmbngfklahaa.fnExactLotsFirst
