/-
  laws.FnFracLessAdd returns true for every code: impl.FracLess answers as the model does at the two drawn fractions, and where the first is less, its sum with one half is, too, where both sums succeed. No condition but what the statement says itself (a code of at most 2^20 bytes).
-/
import Derived.Test.YtoancpdiilofmaaOpen
import Derived.Test.YtoancpdiilofmaaFracE
import Derived.Test.YtoancpdiilofmaaFracT
import Derived.Test.YtoancpdiilofmaaFracI
import Derived.Test.YtoancpdiilofmaaFracN
namespace Go.Proofs.Ytoancpdiilofmaa.fnFracLessAdd
open Go.RowKit
set_option linter.unusedVariables false


set_option maxRecDepth 100000 in
set_option maxHeartbeats 2000000 in
/-- The law's walk: it returns true, and writes nothing that was there. -/
theorem walk (a0 : Option Addr) (len0 cap0 : Nat) (z0 : List Int) (w : World) (w0 : IsRow .u8 w a0 len0 cap0 z0) :
    Calls Try.prog 9 #[.slice a0 len0 cap0] w fun e w' => e = .returned (.bool true) ∧ Below w.heap.size w w' := by
  by_cases hl : len0 ≤ 1048576
  · have hcap := w0.cap
    have HB := Lib.hid w0.bytes; clear w0
    go_enter Try.func9, Try.ntmps9
    go_wp2_with fail
    refine (drawFracLess_any a0 len0 cap0 _ _ HB.out hcap (by omega)).mono ?_
    rintro e w1 ⟨a1, a2, b1, b2, rfl, hb⟩
    have B1 := Lib.hid hb; clear hb HB
    obtain ⟨v, hv⟩ : ∃ v, lessB (a1, a2) (b1, b2) = v := ⟨_, rfl⟩
    have HV := Lib.hid hv
    clear hv
    have hgd := run_guardF
    go_wp2_with fail
    refine (implFracLess_as a1 a2 b1 b2 v _ HV.out).mono ?_
    rintro e w2 ⟨rfl, hb⟩
    have T2_0 := Lib.hid (((Two.new w1 a1 a2 26).alloc (.cells #[.int .i64 b1, .int .i64 b2] 26)).below hb)
    have T2_1 := Lib.hid (((Two.new (w1.alloc (.cells #[.int .i64 a1, .int .i64 a2] 26)) b1 b2 26).at (g' := w1.heap.size + 1) (by simp)).below hb)
    have B2 := Lib.hid (below_on (below_more (below_more B1.out (.cells #[.int .i64 a1, .int .i64 a2] 26)) (.cells #[.int .i64 b1, .int .i64 b2] 26)) hb)
    clear hb
    obtain ⟨l0, c0, d0, -, -⟩ := T2_0.out
    obtain ⟨l1, c1, d1, -, -⟩ := T2_1.out
    go_wp2_with fail
    refine (specFracLess_as a1 a2 b1 b2 v _ HV.out).mono ?_
    rintro e w3 ⟨rfl, hb⟩
    have T3_0 := Lib.hid (T2_0.out.below hb)
    have T3_1 := Lib.hid (T2_1.out.below hb)
    have B3 := Lib.hid (below_on B2.out hb)
    clear l0 c0 d0 l1 c1 d1
    clear hb
    obtain ⟨l0, c0, d0, -, -⟩ := T3_0.out
    obtain ⟨l1, c1, d1, -, -⟩ := T3_1.out
    cases v
    · go_wp2
      go_ret
      exact ⟨rfl, B3.out⟩
    · obtain ⟨u1, v1, hu1⟩ : ∃ u v, addR (a1, a2) (1, 2) = (u, v) := ⟨_, _, rfl⟩
      obtain ⟨k1, hk1⟩ : ∃ k, addOk (a1, a2) (1, 2) = k := ⟨_, rfl⟩
      have HU1 := Lib.hid hu1
      have HK1 := Lib.hid hk1
      clear hu1 hk1
      obtain ⟨u2, v2, hu2⟩ : ∃ u v, addR (b1, b2) (1, 2) = (u, v) := ⟨_, _, rfl⟩
      obtain ⟨k2, hk2⟩ : ∃ k, addOk (b1, b2) (1, 2) = k := ⟨_, rfl⟩
      have HU2 := Lib.hid hu2
      have HK2 := Lib.hid hk2
      clear hu2 hk2
      have HE : Hid (k1 = true → k2 = true → lessB (u1, v1) (u2, v2) = true) := by
        intro h1 h2
        have g := less_add HV.out (HK1.out.trans h1) (HK2.out.trans h2)
        rw [HU1.out, HU2.out] at g
        exact g
      go_wp2_with fail
      refine (implFracAdd_as a1 a2 1 2 u1 v1 k1 _ HU1.out HK1.out).mono ?_
      rintro e w4 ⟨rfl, hb⟩
      have T4_0 := Lib.hid ((T3_0.out.alloc (.cells #[.int .i64 1, .int .i64 2] 26)).below hb)
      have T4_1 := Lib.hid ((T3_1.out.alloc (.cells #[.int .i64 1, .int .i64 2] 26)).below hb)
      have T4_2 := Lib.hid ((Two.new w3 1 2 26).below hb)
      have B4 := Lib.hid (below_on (below_more B3.out (.cells #[.int .i64 1, .int .i64 2] 26)) hb)
      clear l0 c0 d0 l1 c1 d1
      clear hb
      obtain ⟨l0, c0, d0, -, -⟩ := T4_0.out
      obtain ⟨l1, c1, d1, -, -⟩ := T4_1.out
      obtain ⟨l2, c2, d2, -, -⟩ := T4_2.out
      go_wp2_with fail
      refine (implFracAdd_as b1 b2 1 2 u2 v2 k2 _ HU2.out HK2.out).mono ?_
      rintro e w5 ⟨rfl, hb⟩
      have T5_0 := Lib.hid ((T4_0.out.alloc (.cells #[.int .i64 u1, .int .i64 v1] 26)).below hb)
      have T5_1 := Lib.hid ((T4_1.out.alloc (.cells #[.int .i64 u1, .int .i64 v1] 26)).below hb)
      have T5_2 := Lib.hid ((T4_2.out.alloc (.cells #[.int .i64 u1, .int .i64 v1] 26)).below hb)
      have T5_3 := Lib.hid ((Two.new w4 u1 v1 26).below hb)
      have B5 := Lib.hid (below_on (below_more B4.out (.cells #[.int .i64 u1, .int .i64 v1] 26)) hb)
      clear l0 c0 d0 l1 c1 d1 l2 c2 d2
      clear hb
      obtain ⟨l0, c0, d0, -, -⟩ := T5_0.out
      obtain ⟨l1, c1, d1, -, -⟩ := T5_1.out
      obtain ⟨l2, c2, d2, -, -⟩ := T5_2.out
      obtain ⟨l3, c3, d3, -, -⟩ := T5_3.out
      cases k1
      · go_wp2
        go_ret
        exact ⟨rfl, (below_more B5.out (.cells #[.int .i64 u2, .int .i64 v2] 26))⟩
      · cases k2
        · go_wp2
          go_ret
          exact ⟨rfl, (below_more B5.out (.cells #[.int .i64 u2, .int .i64 v2] 26))⟩
        · have HE2 := Lib.hid (HE.out rfl rfl)
          go_wp2_with fail
          refine (implFracLess_as u1 v1 u2 v2 true _ HE2.out).mono ?_
          rintro e w6 ⟨rfl, hb⟩
          have T6_0 := Lib.hid ((T5_0.out.alloc (.cells #[.int .i64 u2, .int .i64 v2] 26)).below hb)
          have T6_1 := Lib.hid ((T5_1.out.alloc (.cells #[.int .i64 u2, .int .i64 v2] 26)).below hb)
          have T6_2 := Lib.hid ((T5_2.out.alloc (.cells #[.int .i64 u2, .int .i64 v2] 26)).below hb)
          have T6_3 := Lib.hid ((T5_3.out.alloc (.cells #[.int .i64 u2, .int .i64 v2] 26)).below hb)
          have T6_4 := Lib.hid ((Two.new w5 u2 v2 26).below hb)
          have B6 := Lib.hid (below_on (below_more B5.out (.cells #[.int .i64 u2, .int .i64 v2] 26)) hb)
          clear l0 c0 d0 l1 c1 d1 l2 c2 d2 l3 c3 d3
          clear hb
          obtain ⟨l0, c0, d0, -, -⟩ := T6_0.out
          obtain ⟨l1, c1, d1, -, -⟩ := T6_1.out
          obtain ⟨l2, c2, d2, -, -⟩ := T6_2.out
          obtain ⟨l3, c3, d3, -, -⟩ := T6_3.out
          obtain ⟨l4, c4, d4, -, -⟩ := T6_4.out
          go_wp2
          go_ret
          exact ⟨rfl, B6.out⟩
  · have hl2 : (1048576 : Int) < (len0 : Int) := by omega
    clear w0
    go_enter Try.func9, Try.ntmps9
    go_wp2
    go_ret
    exact ⟨rfl, Below.refl _ _⟩

end Go.Proofs.Ytoancpdiilofmaa.fnFracLessAdd
