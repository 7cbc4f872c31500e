/-
  laws.FnExactBallotText returns true for every ballot: impl.BallotText answers as spec.BallotText, and its argument is left as it was. No condition.
-/
import Derived.Test.YtppnngccjlnejaaOpen
import Derived.Test.YtppnngccjlnejaaLaws
import Derived.Test.YtppnngccjlnejaaText
namespace Go.Proofs.Ytppnngccjlnejaa.fnExactBallotText
open Go.RowKit
set_option linter.unusedVariables false


/-- The law's walk: it returns true, and writes nothing that was there. -/
theorem walk (a0 : Option Addr) (len0 cap0 : Nat) (z0 : List Int) (w : World) (w0 : IsRow .i64 w a0 len0 cap0 z0) :
    Calls Try.prog 11 #[.slice a0 len0 cap0] w fun e w' => e = .returned (.bool true) ∧ Below w.heap.size w w' := by
  by_cases hl : len0 ≤ 1048576
  · have HI := w0.ints hl
    obtain ⟨zs, hzs⟩ : ∃ zs, z0.take len0 = zs := ⟨_, rfl⟩
    rw [hzs] at HI
    have H := Lib.hid HI
    clear HI hzs w0
    go_enter Try.func11, Try.ntmps11
    go_wp2_with fail
    refine (toIntS_any _ _ _ zs _ H.out).mono ?_
    rintro e w1 ⟨g, rfl, ho1, hb1⟩
    have O1 := Lib.hid (IsInts.of_owns ho1 (by omega)); clear ho1
    go_wp2_with fail
    refine (specText_any _ _ _ zs _ O1.out).mono ?_
    rintro e w2 ⟨rfl, hd2⟩
    have hb2 := hb1.trans (hd2.below _)
    clear O1 hb1 hd2
    go_wp2_with fail
    refine (toIntS_any _ _ _ zs _ (H.out.below hb2)).mono ?_
    rintro e w3 ⟨g3, rfl, ho3, hb3⟩
    have O3 := Lib.hid (IsInts.of_owns ho3 (by omega)); clear ho3
    have hb3' := hb2.trans (hb3.mono hb2.size)
    clear hb2 hb3
    go_wp2_with fail
    refine (implText_any _ _ _ zs _ O3.out).mono ?_
    rintro e w4 ⟨rfl, hb4⟩
    have O4 := Lib.hid (O3.out.below hb4); clear O3
    have hb4' := hb3'.trans (hb4.mono hb3'.size)
    clear hb3' hb4
    have hne : ((txtB zs).toList == (txtB zs).toList) = true := by simp
    go_wp2_with fail
    refine (toIntS_any _ _ _ zs _ (H.out.below hb4')).mono ?_
    rintro e w5 ⟨g5, rfl, ho5, hb5⟩
    have O5 := Lib.hid (IsInts.of_owns ho5 (by omega)); clear ho5
    have O5' := Lib.hid (O4.out.below hb5); clear O4
    have hb5' := hb4'.trans (hb5.mono hb4'.size)
    clear hb4' hb5
    go_wp2_with fail
    refine (eqIntS_any _ _ _ zs _ _ _ zs _ O5'.out O5.out).mono ?_
    rintro e w6 ⟨rfl, hd6⟩
    have hb6 := hb5'.trans (hd6.below _)
    have he : eqB zs zs = true := eqB_self zs
    go_wp2
    go_ret
    exact ⟨rfl, hb6⟩
  · have hl' : (1048576 : Int) < (len0 : Int) := by omega
    clear w0
    go_enter Try.func11, Try.ntmps11
    go_wp2
    go_ret
    exact ⟨rfl, Below.refl _ _⟩

end Go.Proofs.Ytppnngccjlnejaa.fnExactBallotText
