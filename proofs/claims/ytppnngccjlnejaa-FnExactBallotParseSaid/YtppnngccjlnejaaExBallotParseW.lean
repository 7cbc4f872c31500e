/-
  laws.FnExactBallotParse returns true for every text: impl.BallotParse answers as spec.BallotParse, in memory of its own. No condition.
-/
import Derived.Test.YtppnngccjlnejaaOpen
import Derived.Test.YtppnngccjlnejaaMark
import Derived.Test.YtppnngccjlnejaaParseB
namespace Go.Proofs.Ytppnngccjlnejaa.fnExactBallotParse
open Go.RowKit
set_option linter.unusedVariables false


/-- The law's walk: it returns true, and writes nothing that was there. -/
theorem walk (a0 : ByteArray) (w : World) (w0 : a0.size ≤ maxLen) :
    Calls Try.prog 12 #[.string a0] w fun e w' => e = .returned (.bool true) ∧ Below w.heap.size w w' := by
  by_cases hl : a0.size ≤ 1048576
  · have hs : a0.size ≤ 1048600 := by omega
    obtain ⟨pl, hpl⟩ : ∃ pl, parseL a0 = pl := ⟨_, rfl⟩
    obtain ⟨ok, hok⟩ : ∃ ok, validB (nums a0) 5 = ok := ⟨_, rfl⟩
    have hp5 : pl.length ≤ 5 := by rw [← hpl]; exact parseL_short a0
    have HP := Lib.hid hpl
    have HK := Lib.hid hok
    clear hpl hok w0
    have he : eqB pl pl = true := eqB_self pl
    have hne : (ok != ok) = false := by cases ok <;> rfl
    have hnn : ¬ (1 + (pl.length : Int) < 0) := by omega
    have hnq : ((1 + (pl.length : Int)) != (1 + (pl.length : Int))) = false := by simp
    go_enter Try.func12, Try.ntmps12
    go_wp2_with fail
    refine (specParse_as a0 pl ok _ hs HP.out HK.out).mono ?_
    rintro e w1 ⟨a1, c1, rfl, ho, hb⟩
    have I1 := Lib.hid (IsInts.of_owned ho (by omega)); clear ho
    have B1 := Lib.hid hb; clear hb
    go_wp2_with fail
    refine (implParse_as a0 pl ok _ hs HP.out HK.out).mono ?_
    rintro e w2 ⟨a2, c2, rfl, ho, hb⟩
    have O2 := Lib.hid ho; clear ho
    have S2 := hb.size
    have C2 := Lib.hid hb; clear hb
    go_wp2_with fail
    refine (eqIntS_any _ _ _ pl _ _ _ pl _ (IsInts.of_owned O2.out (by omega)) (I1.out.below C2.out)).mono ?_
    rintro e w3 ⟨rfl, hd⟩
    have S3 := (hd.below w2.heap.size).size
    have C3 := Lib.hid (C2.out.trans (hd.below _)); clear C2
    have O3 := Lib.hid (owns_below O2.out (hd.below _)); clear O2 hd
    go_wp2_with fail
    refine (markInt_any w1.heap.size _ _ _ _ 1 _ O3.out (by omega) (by omega) (by omega)).mono ?_
    rintro e w4 ⟨rfl, ho, hb⟩
    have O4 := Lib.hid ho; clear ho O3
    have C4 := Lib.hid (C3.out.trans hb); clear C3 hb
    go_wp2_with fail
    refine (heldInt_any _ _ _ 1 _ (IsInts.of_owned O4.out (by omega)) (by omega) (by omega)).mono ?_
    rintro e w5 ⟨rfl, rfl⟩
    go_wp2_with fail
    refine (implParse_as a0 pl ok _ hs HP.out HK.out).mono ?_
    rintro e w6 ⟨a6, c6, rfl, ho, hb⟩
    have I6 := Lib.hid (IsInts.of_owned ho (by omega)); clear ho
    have O6 := Lib.hid (owns_below O4.out hb)
    have C6 := Lib.hid (C4.out.trans (hb.mono C4.out.size)); clear C4 O4 hb
    go_wp2_with fail
    refine (eqIntS_any _ _ _ pl _ _ _ pl _ I6.out (I1.out.below C6.out)).mono ?_
    rintro e w7 ⟨rfl, hd⟩
    have C7 := Lib.hid (C6.out.trans (hd.below _))
    have O7 := Lib.hid (owns_below O6.out (hd.below _))
    clear C6 O6 hd
    go_wp2_with fail
    refine (heldInt_any _ _ _ 1 _ (IsInts.of_owned O7.out (by omega)) (by omega) (by omega)).mono ?_
    rintro e w8 ⟨rfl, rfl⟩
    go_wp2
    go_ret
    exact ⟨rfl, B1.out.trans (C7.out.mono B1.out.size)⟩
  · have hl' : (1048576 : Int) < (a0.size : Int) := by omega
    clear w0
    go_enter Try.func12, Try.ntmps12
    go_wp2
    go_ret
    exact ⟨rfl, Below.refl _ _⟩

end Go.Proofs.Ytppnngccjlnejaa.fnExactBallotParse
