/-
  laws.FnFracTimesOver returns true for every code: impl.FracAdd answers as the model does at the two drawn fractions, and the products of both with two thirds add up to that of their sum, where all these succeed. No condition but what the statement says itself (a code of at most 2^20 bytes).
-/
import Derived.Test.YtoancpdiilofmaaOpen
import Derived.Test.YtoancpdiilofmaaFracE
import Derived.Test.YtoancpdiilofmaaFracT
import Derived.Test.YtoancpdiilofmaaFracI
import Derived.Test.YtoancpdiilofmaaFracN
namespace Go.Proofs.Ytoancpdiilofmaa.fnFracTimesOver
open Go.RowKit
set_option linter.unusedVariables false


set_option maxRecDepth 100000 in
set_option maxHeartbeats 2000000 in
/-- The law's walk: it returns true, and writes nothing that was there. -/
theorem walk (a0 : Option Addr) (len0 cap0 : Nat) (z0 : List Int) (w : World) (w0 : IsRow .u8 w a0 len0 cap0 z0) :
    Calls Try.prog 7 #[.slice a0 len0 cap0] w fun e w' => e = .returned (.bool true) ∧ Below w.heap.size w w' := by
  by_cases hl : len0 ≤ 1048576
  · have hcap := w0.cap
    have HB := Lib.hid w0.bytes; clear w0
    go_enter Try.func7, Try.ntmps7
    go_wp2_with fail
    refine (drawFracAdd_any a0 len0 cap0 _ _ HB.out hcap (by omega)).mono ?_
    rintro e w1 ⟨a1, a2, b1, b2, rfl, hb⟩
    have B1 := Lib.hid hb; clear hb HB
    obtain ⟨x, y, hxy⟩ : ∃ x y, addR (a1, a2) (b1, b2) = (x, y) := ⟨_, _, rfl⟩
    obtain ⟨ok, hok⟩ : ∃ ok, addOk (a1, a2) (b1, b2) = ok := ⟨_, rfl⟩
    have HX := Lib.hid hxy
    have HO := Lib.hid hok
    clear hxy hok
    have hgd := run_guardF
    have hq1 := run_neqF x y x y false (by rw [eqF_self]; rfl)
    have hq2 := run_eqF x y x y true (eqF_self x y)
    go_wp2_with fail
    refine (implFracAdd_as a1 a2 b1 b2 x y ok _ HX.out HO.out).mono ?_
    rintro e w2 ⟨rfl, hb⟩
    have T2_0 := Lib.hid (((Two.new w1 a1 a2 26).alloc (.cells #[.int .i64 b1, .int .i64 b2] 26)).below hb)
    have T2_1 := Lib.hid (((Two.new (w1.alloc (.cells #[.int .i64 a1, .int .i64 a2] 26)) b1 b2 26).at (g' := w1.heap.size + 1) (by simp)).below hb)
    have B2 := Lib.hid (below_on (below_more (below_more B1.out (.cells #[.int .i64 a1, .int .i64 a2] 26)) (.cells #[.int .i64 b1, .int .i64 b2] 26)) hb)
    clear hb
    obtain ⟨l0, c0, d0, -, -⟩ := T2_0.out
    obtain ⟨l1, c1, d1, -, -⟩ := T2_1.out
    go_wp2_with fail
    refine (specFracAdd_as a1 a2 b1 b2 x y ok _ HX.out HO.out).mono ?_
    rintro e w3 ⟨rfl, hb⟩
    have T3_0 := Lib.hid ((T2_0.out.alloc (.cells #[.int .i64 x, .int .i64 y] 26)).below hb)
    have T3_1 := Lib.hid ((T2_1.out.alloc (.cells #[.int .i64 x, .int .i64 y] 26)).below hb)
    have T3_2 := Lib.hid ((Two.new w2 x y 26).below hb)
    have B3 := Lib.hid (below_on (below_more B2.out (.cells #[.int .i64 x, .int .i64 y] 26)) hb)
    clear l0 c0 d0 l1 c1 d1
    clear hb
    obtain ⟨l0, c0, d0, -, -⟩ := T3_0.out
    obtain ⟨l1, c1, d1, -, -⟩ := T3_1.out
    obtain ⟨l2, c2, d2, -, -⟩ := T3_2.out
    cases ok
    · go_wp2
      go_ret
      exact ⟨rfl, (below_more B3.out (.cells #[.int .i64 x, .int .i64 y] 26))⟩
    · have hO := HO.out
      obtain ⟨u1, v1, hu1⟩ : ∃ u v, mulR (a1, a2) (2, 3) = (u, v) := ⟨_, _, rfl⟩
      obtain ⟨k1, hk1⟩ : ∃ k, mulOk (a1, a2) (2, 3) = k := ⟨_, rfl⟩
      have HU1 := Lib.hid hu1
      have HK1 := Lib.hid hk1
      clear hu1 hk1
      obtain ⟨u2, v2, hu2⟩ : ∃ u v, mulR (b1, b2) (2, 3) = (u, v) := ⟨_, _, rfl⟩
      obtain ⟨k2, hk2⟩ : ∃ k, mulOk (b1, b2) (2, 3) = k := ⟨_, rfl⟩
      have HU2 := Lib.hid hu2
      have HK2 := Lib.hid hk2
      clear hu2 hk2
      obtain ⟨u3, v3, hu3⟩ : ∃ u v, mulR (x, y) (2, 3) = (u, v) := ⟨_, _, rfl⟩
      obtain ⟨k3, hk3⟩ : ∃ k, mulOk (x, y) (2, 3) = k := ⟨_, rfl⟩
      have HU3 := Lib.hid hu3
      have HK3 := Lib.hid hk3
      clear hu3 hk3
      obtain ⟨u4, v4, hu4⟩ : ∃ u v, addR (u1, v1) (u2, v2) = (u, v) := ⟨_, _, rfl⟩
      obtain ⟨k4, hk4⟩ : ∃ k, addOk (u1, v1) (u2, v2) = k := ⟨_, rfl⟩
      have HU4 := Lib.hid hu4
      have HK4 := Lib.hid hk4
      clear hu4 hk4
      have HE : Hid (k1 = true → k2 = true → k3 = true → k4 = true → (u4, v4) = (u3, v3)) := by
        intro h1 h2 h3 h4
        have g := over_exact hO (HK1.out.trans h1) (HK2.out.trans h2) (by rw [HX.out]; exact HK3.out.trans h3) (by rw [HU1.out, HU2.out]; exact HK4.out.trans h4)
        rw [HU1.out, HU2.out, HU4.out, HX.out, HU3.out] at g
        exact g
      clear hO
      go_wp2_with fail
      refine (implFracTimes_as a1 a2 2 3 u1 v1 k1 _ HU1.out HK1.out).mono ?_
      rintro e w4 ⟨rfl, hb⟩
      have T4_0 := Lib.hid (((T3_0.out.alloc (.cells #[.int .i64 x, .int .i64 y] 26)).alloc (.cells #[.int .i64 2, .int .i64 3] 26)).below hb)
      have T4_1 := Lib.hid (((T3_1.out.alloc (.cells #[.int .i64 x, .int .i64 y] 26)).alloc (.cells #[.int .i64 2, .int .i64 3] 26)).below hb)
      have T4_2 := Lib.hid (((T3_2.out.alloc (.cells #[.int .i64 x, .int .i64 y] 26)).alloc (.cells #[.int .i64 2, .int .i64 3] 26)).below hb)
      have T4_3 := Lib.hid (((Two.new w3 x y 26).alloc (.cells #[.int .i64 2, .int .i64 3] 26)).below hb)
      have T4_4 := Lib.hid (((Two.new (w3.alloc (.cells #[.int .i64 x, .int .i64 y] 26)) 2 3 26).at (g' := w3.heap.size + 1) (by simp)).below hb)
      have B4 := Lib.hid (below_on (below_more (below_more B3.out (.cells #[.int .i64 x, .int .i64 y] 26)) (.cells #[.int .i64 2, .int .i64 3] 26)) hb)
      clear l0 c0 d0 l1 c1 d1 l2 c2 d2
      clear hb
      obtain ⟨l0, c0, d0, -, -⟩ := T4_0.out
      obtain ⟨l1, c1, d1, -, -⟩ := T4_1.out
      obtain ⟨l2, c2, d2, -, -⟩ := T4_2.out
      obtain ⟨l3, c3, d3, -, -⟩ := T4_3.out
      obtain ⟨l4, c4, d4, -, -⟩ := T4_4.out
      go_wp2_with fail
      refine (implFracTimes_as b1 b2 2 3 u2 v2 k2 _ HU2.out HK2.out).mono ?_
      rintro e w5 ⟨rfl, hb⟩
      have T5_0 := Lib.hid ((T4_0.out.alloc (.cells #[.int .i64 u1, .int .i64 v1] 26)).below hb)
      have T5_1 := Lib.hid ((T4_1.out.alloc (.cells #[.int .i64 u1, .int .i64 v1] 26)).below hb)
      have T5_2 := Lib.hid ((T4_2.out.alloc (.cells #[.int .i64 u1, .int .i64 v1] 26)).below hb)
      have T5_3 := Lib.hid ((T4_3.out.alloc (.cells #[.int .i64 u1, .int .i64 v1] 26)).below hb)
      have T5_4 := Lib.hid ((T4_4.out.alloc (.cells #[.int .i64 u1, .int .i64 v1] 26)).below hb)
      have T5_5 := Lib.hid ((Two.new w4 u1 v1 26).below hb)
      have B5 := Lib.hid (below_on (below_more B4.out (.cells #[.int .i64 u1, .int .i64 v1] 26)) hb)
      clear l0 c0 d0 l1 c1 d1 l2 c2 d2 l3 c3 d3 l4 c4 d4
      clear hb
      obtain ⟨l0, c0, d0, -, -⟩ := T5_0.out
      obtain ⟨l1, c1, d1, -, -⟩ := T5_1.out
      obtain ⟨l2, c2, d2, -, -⟩ := T5_2.out
      obtain ⟨l3, c3, d3, -, -⟩ := T5_3.out
      obtain ⟨l4, c4, d4, -, -⟩ := T5_4.out
      obtain ⟨l5, c5, d5, -, -⟩ := T5_5.out
      go_wp2_with fail
      refine (implFracTimes_as x y 2 3 u3 v3 k3 _ HU3.out HK3.out).mono ?_
      rintro e w6 ⟨rfl, hb⟩
      have T6_0 := Lib.hid ((T5_0.out.alloc (.cells #[.int .i64 u2, .int .i64 v2] 26)).below hb)
      have T6_1 := Lib.hid ((T5_1.out.alloc (.cells #[.int .i64 u2, .int .i64 v2] 26)).below hb)
      have T6_2 := Lib.hid ((T5_2.out.alloc (.cells #[.int .i64 u2, .int .i64 v2] 26)).below hb)
      have T6_3 := Lib.hid ((T5_3.out.alloc (.cells #[.int .i64 u2, .int .i64 v2] 26)).below hb)
      have T6_4 := Lib.hid ((T5_4.out.alloc (.cells #[.int .i64 u2, .int .i64 v2] 26)).below hb)
      have T6_5 := Lib.hid ((T5_5.out.alloc (.cells #[.int .i64 u2, .int .i64 v2] 26)).below hb)
      have T6_6 := Lib.hid ((Two.new w5 u2 v2 26).below hb)
      have B6 := Lib.hid (below_on (below_more B5.out (.cells #[.int .i64 u2, .int .i64 v2] 26)) hb)
      clear l0 c0 d0 l1 c1 d1 l2 c2 d2 l3 c3 d3 l4 c4 d4 l5 c5 d5
      clear hb
      obtain ⟨l0, c0, d0, -, -⟩ := T6_0.out
      obtain ⟨l1, c1, d1, -, -⟩ := T6_1.out
      obtain ⟨l2, c2, d2, -, -⟩ := T6_2.out
      obtain ⟨l3, c3, d3, -, -⟩ := T6_3.out
      obtain ⟨l4, c4, d4, -, -⟩ := T6_4.out
      obtain ⟨l5, c5, d5, -, -⟩ := T6_5.out
      obtain ⟨l6, c6, d6, -, -⟩ := T6_6.out
      go_wp2_with fail
      refine (implFracAdd_as u1 v1 u2 v2 u4 v4 k4 _ HU4.out HK4.out).mono ?_
      rintro e w7 ⟨rfl, hb⟩
      have T7_0 := Lib.hid ((T6_0.out.alloc (.cells #[.int .i64 u3, .int .i64 v3] 26)).below hb)
      have T7_1 := Lib.hid ((T6_1.out.alloc (.cells #[.int .i64 u3, .int .i64 v3] 26)).below hb)
      have T7_2 := Lib.hid ((T6_2.out.alloc (.cells #[.int .i64 u3, .int .i64 v3] 26)).below hb)
      have T7_3 := Lib.hid ((T6_3.out.alloc (.cells #[.int .i64 u3, .int .i64 v3] 26)).below hb)
      have T7_4 := Lib.hid ((T6_4.out.alloc (.cells #[.int .i64 u3, .int .i64 v3] 26)).below hb)
      have T7_5 := Lib.hid ((T6_5.out.alloc (.cells #[.int .i64 u3, .int .i64 v3] 26)).below hb)
      have T7_6 := Lib.hid ((T6_6.out.alloc (.cells #[.int .i64 u3, .int .i64 v3] 26)).below hb)
      have T7_7 := Lib.hid ((Two.new w6 u3 v3 26).below hb)
      have B7 := Lib.hid (below_on (below_more B6.out (.cells #[.int .i64 u3, .int .i64 v3] 26)) hb)
      clear l0 c0 d0 l1 c1 d1 l2 c2 d2 l3 c3 d3 l4 c4 d4 l5 c5 d5 l6 c6 d6
      clear hb
      obtain ⟨l0, c0, d0, -, -⟩ := T7_0.out
      obtain ⟨l1, c1, d1, -, -⟩ := T7_1.out
      obtain ⟨l2, c2, d2, -, -⟩ := T7_2.out
      obtain ⟨l3, c3, d3, -, -⟩ := T7_3.out
      obtain ⟨l4, c4, d4, -, -⟩ := T7_4.out
      obtain ⟨l5, c5, d5, -, -⟩ := T7_5.out
      obtain ⟨l6, c6, d6, -, -⟩ := T7_6.out
      obtain ⟨l7, c7, d7, -, -⟩ := T7_7.out
      cases k1
      · go_wp2
        go_ret
        exact ⟨rfl, (below_more B7.out (.cells #[.int .i64 u4, .int .i64 v4] 26))⟩
      · cases k2
        · go_wp2
          go_ret
          exact ⟨rfl, (below_more B7.out (.cells #[.int .i64 u4, .int .i64 v4] 26))⟩
        · cases k3
          · go_wp2
            go_ret
            exact ⟨rfl, (below_more B7.out (.cells #[.int .i64 u4, .int .i64 v4] 26))⟩
          · cases k4
            · go_wp2
              go_ret
              exact ⟨rfl, (below_more B7.out (.cells #[.int .i64 u4, .int .i64 v4] 26))⟩
            · have hq3 := run_eqF u4 v4 u3 v3 true (eqF_of (HE.out rfl rfl rfl rfl))
              go_wp2
              go_ret
              exact ⟨rfl, (below_more B7.out (.cells #[.int .i64 u4, .int .i64 v4] 26))⟩
  · have hl2 : (1048576 : Int) < (len0 : Int) := by omega
    clear w0
    go_enter Try.func7, Try.ntmps7
    go_wp2
    go_ret
    exact ⟨rfl, Below.refl _ _⟩

end Go.Proofs.Ytoancpdiilofmaa.fnFracTimesOver
