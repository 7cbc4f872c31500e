/-
  laws.FnExactPairWinner returns true for every list of piles and every number: impl.PairWinner answers as the model does, and writes into no argument. No condition but what the statement says itself.
-/
import Derived.Test.YtaaamidkfhabnabGrp4
import Derived.Test.YtaaamidkfhabnabGrp8
import Derived.Test.YtaaamidkfhabnabPairJ
import Derived.Test.YtaaamidkfhabnabTopS
import Derived.Test.YtaaamidkfhabnabGrp13
namespace Go.Proofs.Ytaaamidkfhabnab.fnExactPairWinner
open Go.RowKit
set_option linter.unusedVariables false


set_option maxRecDepth 100000 in
set_option maxHeartbeats 2000000 in
/-- The law's walk: it returns true, and writes nothing that was there. -/
theorem walk (a0 : Option Addr) (len0 cap0 : Nat) (z0 : List Pl) (a1 : Int) (w : World) (w0 : IsPRow w a0 len0 cap0 z0) (w1 : (Lit.int .i64 a1).wf = true) :
    Calls Try.prog 3 #[.slice a0 len0 cap0, .int .i64 a1] w fun e w' => e = .returned (.bool true) ∧ Below w.heap.size w w' := by
  by_cases hall : len0 ≤ 1048576
  · have hl0 := hall
    have HI0 := Lib.hid (w0.piles hl0)
    have HH0 := Lib.hid w0.2.1
    have hm0 : len0 ≤ 1048600 := by omega
    clear w0
    go_enter Try.func3, Try.ntmps3
    go_wp2_with fail
    refine (szPileS_any _ _ _ z0 1048576 _ HI0.out HH0.out (by omega)).mono ?_
    rintro e w1 ⟨s0, rfl, hsz0, hs10, hb⟩
    have HI0 := Lib.hid (HI0.out.below hb)
    have B := Lib.hid hb
    clear hb
    by_cases hneg0 : s0 < 0
    · have hd : decide (s0 < 0) = true := decide_eq_true hneg0
      go_wp2
      go_ret
      exact ⟨rfl, B.out⟩
    · have hd0 : decide (s0 < 0) = false := decide_eq_false hneg0
      have HS0 := Lib.hid (hsz0 (by omega)).2
      have hs20 := (hsz0 (by omega)).1
      clear hsz0
      obtain ⟨v, hv⟩ : ∃ v, winnerF z0 a1 = v := ⟨_, rfl⟩
      have Hv := Lib.hid hv
      clear hv
      have hne : (v != v) = false := by simp
      have he : eqP z0 z0 = true := eqP_self z0
      go_wp2_with fail
      refine (toPileS_any _ len0 _ z0 _ HI0.out).mono ?_
      rintro e w2 ⟨g2, rfl, ho, hb⟩
      have HI0 := Lib.hid (HI0.out.below hb)
      have O2 := Lib.hid (ho)
      have B := Lib.hid (B.out.trans (hb.mono B.out.size))
      clear ho
      clear hb
      go_wp2_with fail
      refine (specPairWinner_as _ len0 _ z0 a1 v _ (IsPiles.of_owned O2.out (by omega)) HS0.out Hv.out).mono ?_
      rintro e w3 ⟨rfl, hb⟩
      have HI0 := Lib.hid (HI0.out.below hb)
      have O2 := Lib.hid (owns_below O2.out hb)
      have B := Lib.hid (B.out.trans (hb.mono B.out.size))
      clear hb
      go_wp2_with fail
      refine (toPileS_any _ len0 _ z0 _ HI0.out).mono ?_
      rintro e w4 ⟨g3, rfl, ho, hb⟩
      have HI0 := Lib.hid (HI0.out.below hb)
      have O2 := Lib.hid (owns_below O2.out hb)
      have O3 := Lib.hid (ho)
      have B := Lib.hid (B.out.trans (hb.mono B.out.size))
      clear ho
      clear hb
      go_wp2_with fail
      refine (implPairWinner_as _ len0 _ z0 a1 v _ (IsPiles.of_owned O3.out (by omega)) HS0.out Hv.out).mono ?_
      rintro e w5 ⟨rfl, hb⟩
      have HI0 := Lib.hid (HI0.out.below hb)
      have O2 := Lib.hid (owns_below O2.out hb)
      have O3 := Lib.hid (owns_below O3.out hb)
      have B := Lib.hid (B.out.trans (hb.mono B.out.size))
      clear hb
      go_wp2_with fail
      refine (toPileS_any _ len0 _ z0 _ HI0.out).mono ?_
      rintro e w6 ⟨g4, rfl, ho, hb⟩
      have HI0 := Lib.hid (HI0.out.below hb)
      have O2 := Lib.hid (owns_below O2.out hb)
      have O3 := Lib.hid (owns_below O3.out hb)
      have O4 := Lib.hid (ho)
      have B := Lib.hid (B.out.trans (hb.mono B.out.size))
      clear ho
      clear hb
      go_wp2_with fail
      refine (eqPileS_as _ len0 _ z0 _ len0 _ z0 true _ (IsPiles.of_owned O3.out (by omega)) (IsPiles.of_owned O4.out (by omega)) he).mono ?_
      rintro e w7 ⟨rfl, hb⟩
      have HI0 := Lib.hid (HI0.out.below hb)
      have O2 := Lib.hid (owns_below O2.out hb)
      have O3 := Lib.hid (owns_below O3.out hb)
      have O4 := Lib.hid (owns_below O4.out hb)
      have B := Lib.hid (B.out.trans (hb.mono B.out.size))
      clear hb
      go_wp2
      go_ret
      exact ⟨rfl, B.out⟩
  · have hlong : 1048576 < len0 := by omega
    have hmx := w0.2.2.1
    go_enter Try.func3, Try.ntmps3
    go_wp2_with fail
    refine (szPileS_long _ _ _ 1048576 _ hlong hmx (by omega)).mono ?_
    rintro e w1 ⟨rfl, rfl⟩
    go_wp2
    go_ret
    exact ⟨rfl, Below.refl _ _⟩

end Go.Proofs.Ytaaamidkfhabnab.fnExactPairWinner
