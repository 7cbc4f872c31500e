/-
  laws.FnFracLess returns true for every code: impl.FracLess answers as the model does at the two drawn fractions, and of two valid ones one alone is less, or both are equal. No condition but what the statement says itself (a code of at most 2^20 bytes).
-/
import Derived.Test.YtoancpdiilofmaaOpen
import Derived.Test.YtoancpdiilofmaaFracE
import Derived.Test.YtoancpdiilofmaaFracT
import Derived.Test.YtoancpdiilofmaaFracI
import Derived.Test.YtoancpdiilofmaaFracN
namespace Go.Proofs.Ytoancpdiilofmaa.fnFracLess
open Go.RowKit
set_option linter.unusedVariables false


set_option maxRecDepth 100000 in
set_option maxHeartbeats 2000000 in
/-- The law's walk: it returns true, and writes nothing that was there. -/
theorem walk (a0 : Option Addr) (len0 cap0 : Nat) (z0 : List Int) (w : World) (w0 : IsRow .u8 w a0 len0 cap0 z0) :
    Calls Try.prog 8 #[.slice a0 len0 cap0] w fun e w' => e = .returned (.bool true) ∧ Below w.heap.size w w' := by
  by_cases hl : len0 ≤ 1048576
  · have hcap := w0.cap
    have HB := Lib.hid w0.bytes; clear w0
    go_enter Try.func8, Try.ntmps8
    go_wp2_with fail
    refine (drawFracLess_any a0 len0 cap0 _ _ HB.out hcap (by omega)).mono ?_
    rintro e w1 ⟨a1, a2, b1, b2, rfl, hb⟩
    have B1 := Lib.hid hb; clear hb HB
    obtain ⟨v, hv⟩ : ∃ v, lessB (a1, a2) (b1, b2) = v := ⟨_, rfl⟩
    have HV := Lib.hid hv
    clear hv
    have hgd := run_guardF
    go_wp2_with fail
    refine (implFracLess_as a1 a2 b1 b2 v _ HV.out).mono ?_
    rintro e w2 ⟨rfl, hb⟩
    have T2_0 := Lib.hid (((Two.new w1 a1 a2 26).alloc (.cells #[.int .i64 b1, .int .i64 b2] 26)).below hb)
    have T2_1 := Lib.hid (((Two.new (w1.alloc (.cells #[.int .i64 a1, .int .i64 a2] 26)) b1 b2 26).at (g' := w1.heap.size + 1) (by simp)).below hb)
    have B2 := Lib.hid (below_on (below_more (below_more B1.out (.cells #[.int .i64 a1, .int .i64 a2] 26)) (.cells #[.int .i64 b1, .int .i64 b2] 26)) hb)
    clear hb
    obtain ⟨l0, c0, d0, -, -⟩ := T2_0.out
    obtain ⟨l1, c1, d1, -, -⟩ := T2_1.out
    go_wp2_with fail
    refine (specFracLess_as a1 a2 b1 b2 v _ HV.out).mono ?_
    rintro e w3 ⟨rfl, hb⟩
    have T3_0 := Lib.hid (T2_0.out.below hb)
    have T3_1 := Lib.hid (T2_1.out.below hb)
    have B3 := Lib.hid (below_on B2.out hb)
    clear l0 c0 d0 l1 c1 d1
    clear hb
    obtain ⟨l0, c0, d0, -, -⟩ := T3_0.out
    obtain ⟨l1, c1, d1, -, -⟩ := T3_1.out
    have hnn : (v != v) = false := by simp
    have hee : (v == v) = true := by simp
    obtain ⟨fa, hfa⟩ : ∃ fa, fracB (a1, a2) = fa := ⟨_, rfl⟩
    obtain ⟨fb, hfb⟩ : ∃ fb, fracB (b1, b2) = fb := ⟨_, rfl⟩
    have HA := Lib.hid hfa
    have HBB := Lib.hid hfb
    clear hfa hfb
    cases fa
    · go_wp2_with fail
      refine (specFrac_as a1 a2 false _ HA.out).mono ?_
      rintro e w4 ⟨rfl, hb⟩
      have T4_0 := Lib.hid (T3_0.out.below hb)
      have T4_1 := Lib.hid (T3_1.out.below hb)
      have B4 := Lib.hid (below_on B3.out hb)
      clear l0 c0 d0 l1 c1 d1
      clear hb
      obtain ⟨l0, c0, d0, -, -⟩ := T4_0.out
      obtain ⟨l1, c1, d1, -, -⟩ := T4_1.out
      go_wp2
      go_ret
      exact ⟨rfl, B4.out⟩
    · cases fb
      · go_wp2_with fail
        refine (specFrac_as a1 a2 true _ HA.out).mono ?_
        rintro e w4 ⟨rfl, hb⟩
        have T4_0 := Lib.hid (T3_0.out.below hb)
        have T4_1 := Lib.hid (T3_1.out.below hb)
        have B4 := Lib.hid (below_on B3.out hb)
        clear l0 c0 d0 l1 c1 d1
        clear hb
        obtain ⟨l0, c0, d0, -, -⟩ := T4_0.out
        obtain ⟨l1, c1, d1, -, -⟩ := T4_1.out
        go_wp2_with fail
        refine (specFrac_as b1 b2 false _ HBB.out).mono ?_
        rintro e w5 ⟨rfl, hb⟩
        have T5_0 := Lib.hid (T4_0.out.below hb)
        have T5_1 := Lib.hid (T4_1.out.below hb)
        have B5 := Lib.hid (below_on B4.out hb)
        clear l0 c0 d0 l1 c1 d1
        clear hb
        obtain ⟨l0, c0, d0, -, -⟩ := T5_0.out
        obtain ⟨l1, c1, d1, -, -⟩ := T5_1.out
        go_wp2
        go_ret
        exact ⟨rfl, B5.out⟩
      · obtain ⟨q, hq⟩ : ∃ q, lessB (b1, b2) (a1, a2) = q := ⟨_, rfl⟩
        have HQ := Lib.hid hq
        have hlaw := less_law HA.out HBB.out
        rw [HV.out, hq] at hlaw
        have hqe := run_eqF a1 a2 b1 b2 (!v && !q) (by rw [eqF_iff]; exact hlaw.2)
        have HL := Lib.hid hlaw.1
        clear hlaw hq
        go_wp2_with fail
        refine (specFrac_as a1 a2 true _ HA.out).mono ?_
        rintro e w4 ⟨rfl, hb⟩
        have T4_0 := Lib.hid (T3_0.out.below hb)
        have T4_1 := Lib.hid (T3_1.out.below hb)
        have B4 := Lib.hid (below_on B3.out hb)
        clear l0 c0 d0 l1 c1 d1
        clear hb
        obtain ⟨l0, c0, d0, -, -⟩ := T4_0.out
        obtain ⟨l1, c1, d1, -, -⟩ := T4_1.out
        go_wp2_with fail
        refine (specFrac_as b1 b2 true _ HBB.out).mono ?_
        rintro e w5 ⟨rfl, hb⟩
        have T5_0 := Lib.hid (T4_0.out.below hb)
        have T5_1 := Lib.hid (T4_1.out.below hb)
        have B5 := Lib.hid (below_on B4.out hb)
        clear l0 c0 d0 l1 c1 d1
        clear hb
        obtain ⟨l0, c0, d0, -, -⟩ := T5_0.out
        obtain ⟨l1, c1, d1, -, -⟩ := T5_1.out
        go_wp2_with fail
        refine (implFracLess_as b1 b2 a1 a2 q _ HQ.out).mono ?_
        rintro e w6 ⟨rfl, hb⟩
        have T6_0 := Lib.hid (T5_0.out.below hb)
        have T6_1 := Lib.hid (T5_1.out.below hb)
        have B6 := Lib.hid (below_on B5.out hb)
        clear l0 c0 d0 l1 c1 d1
        clear hb
        obtain ⟨l0, c0, d0, -, -⟩ := T6_0.out
        obtain ⟨l1, c1, d1, -, -⟩ := T6_1.out
        cases v
        · cases q
          · go_wp2
            go_ret
            exact ⟨rfl, B6.out⟩
          · go_wp2
            go_ret
            exact ⟨rfl, B6.out⟩
        · cases q
          · go_wp2
            go_ret
            exact ⟨rfl, B6.out⟩
          · exact absurd HL.out (by decide)
  · have hl2 : (1048576 : Int) < (len0 : Int) := by omega
    clear w0
    go_enter Try.func8, Try.ntmps8
    go_wp2
    go_ret
    exact ⟨rfl, Below.refl _ _⟩

end Go.Proofs.Ytoancpdiilofmaa.fnFracLess
