/-
  laws.FnFracAddText returns true for every code: impl.FracAdd answers as the model does at the two drawn fractions, and as impl.FracOf at the parts of their sum, where this succeeds. No condition but what the statement says itself (a code of at most 2^20 bytes).
-/
import Derived.Test.YtoancpdiilofmaaOpen
import Derived.Test.YtoancpdiilofmaaFracE
import Derived.Test.YtoancpdiilofmaaFracT
import Derived.Test.YtoancpdiilofmaaFracI
import Derived.Test.YtoancpdiilofmaaFracN
namespace Go.Proofs.Ytoancpdiilofmaa.fnFracAddText
open Go.RowKit
set_option linter.unusedVariables false


set_option maxRecDepth 100000 in
set_option maxHeartbeats 2000000 in
/-- The law's walk: it returns true, and writes nothing that was there. -/
theorem walk (a0 : Option Addr) (len0 cap0 : Nat) (z0 : List Int) (w : World) (w0 : IsRow .u8 w a0 len0 cap0 z0) :
    Calls Try.prog 5 #[.slice a0 len0 cap0] w fun e w' => e = .returned (.bool true) ∧ Below w.heap.size w w' := by
  by_cases hl : len0 ≤ 1048576
  · have hcap := w0.cap
    have HB := Lib.hid w0.bytes; clear w0
    go_enter Try.func5, Try.ntmps5
    go_wp2_with fail
    refine (drawFracAdd_any a0 len0 cap0 _ _ HB.out hcap (by omega)).mono ?_
    rintro e w1 ⟨a1, a2, b1, b2, rfl, hb⟩
    have B1 := Lib.hid hb; clear hb HB
    obtain ⟨x, y, hxy⟩ : ∃ x y, addR (a1, a2) (b1, b2) = (x, y) := ⟨_, _, rfl⟩
    obtain ⟨ok, hok⟩ : ∃ ok, addOk (a1, a2) (b1, b2) = ok := ⟨_, rfl⟩
    have HX := Lib.hid hxy
    have HO := Lib.hid hok
    clear hxy hok
    have hgd := run_guardF
    have hq1 := run_neqF x y x y false (by rw [eqF_self]; rfl)
    have hq2 := run_eqF x y x y true (eqF_self x y)
    go_wp2_with fail
    refine (implFracAdd_as a1 a2 b1 b2 x y ok _ HX.out HO.out).mono ?_
    rintro e w2 ⟨rfl, hb⟩
    have T2_0 := Lib.hid (((Two.new w1 a1 a2 26).alloc (.cells #[.int .i64 b1, .int .i64 b2] 26)).below hb)
    have T2_1 := Lib.hid (((Two.new (w1.alloc (.cells #[.int .i64 a1, .int .i64 a2] 26)) b1 b2 26).at (g' := w1.heap.size + 1) (by simp)).below hb)
    have B2 := Lib.hid (below_on (below_more (below_more B1.out (.cells #[.int .i64 a1, .int .i64 a2] 26)) (.cells #[.int .i64 b1, .int .i64 b2] 26)) hb)
    clear hb
    obtain ⟨l0, c0, d0, -, -⟩ := T2_0.out
    obtain ⟨l1, c1, d1, -, -⟩ := T2_1.out
    go_wp2_with fail
    refine (specFracAdd_as a1 a2 b1 b2 x y ok _ HX.out HO.out).mono ?_
    rintro e w3 ⟨rfl, hb⟩
    have T3_0 := Lib.hid ((T2_0.out.alloc (.cells #[.int .i64 x, .int .i64 y] 26)).below hb)
    have T3_1 := Lib.hid ((T2_1.out.alloc (.cells #[.int .i64 x, .int .i64 y] 26)).below hb)
    have T3_2 := Lib.hid ((Two.new w2 x y 26).below hb)
    have B3 := Lib.hid (below_on (below_more B2.out (.cells #[.int .i64 x, .int .i64 y] 26)) hb)
    clear l0 c0 d0 l1 c1 d1
    clear hb
    obtain ⟨l0, c0, d0, -, -⟩ := T3_0.out
    obtain ⟨l1, c1, d1, -, -⟩ := T3_1.out
    obtain ⟨l2, c2, d2, -, -⟩ := T3_2.out
    cases ok
    · go_wp2
      go_ret
      exact ⟨rfl, (below_more B3.out (.cells #[.int .i64 x, .int .i64 y] 26))⟩
    · have hO := HO.out
      obtain ⟨hva, hvb, hvs⟩ := (addOk_iff _ _).1 hO
      obtain ⟨hA1, hA2, -⟩ := (fracB_iff _).1 hva
      obtain ⟨hV1, hV2, -⟩ := (fracB_iff _).1 hvb
      have hA1' : -9999999 ≤ a1 ∧ a1 ≤ 9999999 := hA1
      have hA2' : 1 ≤ a2 ∧ a2 ≤ 9999999 := hA2
      have hV1' : -9999999 ≤ b1 ∧ b1 ≤ 9999999 := hV1
      have hV2' : 1 ≤ b2 ∧ b2 ≤ 9999999 := hV2
      have m1 := mul_bound hA1' (y := b2) ⟨by omega, by omega⟩
      have m2 := mul_bound hV1' (y := a2) ⟨by omega, by omega⟩
      have m3 := mul_bound (x := a2) ⟨by omega, by omega⟩ (y := b2) ⟨by omega, by omega⟩
      have hp1 : IntKind.i64.wrap (a1 * b2) = a1 * b2 := IntWalk.i64_in _ (by omega)
      have hp2 : IntKind.i64.wrap (b1 * a2) = b1 * a2 := IntWalk.i64_in _ (by omega)
      have hp3 : IntKind.i64.wrap (a2 * b2) = a2 * b2 := IntWalk.i64_in _ (by omega)
      have hp4 : IntKind.i64.wrap (a1 * b2 + b1 * a2) = a1 * b2 + b1 * a2 := IntWalk.i64_in _ (by omega)
      obtain ⟨u, v, huv⟩ : ∃ u v, ofR (a1 * b2 + b1 * a2) (a2 * b2) = (u, v) := ⟨_, _, rfl⟩
      obtain ⟨fine, hfine⟩ : ∃ fine, ofOk (a1 * b2 + b1 * a2) (a2 * b2) = fine := ⟨_, rfl⟩
      have HU := Lib.hid huv
      have HF := Lib.hid hfine
      have hE : fine = true → (u, v) = (x, y) := fun h => by rw [← huv, ← HX.out]; exact add_exact hO (by rw [← h, ← hfine])
      have HE := Lib.hid hE
      clear hva hvb hvs hA1 hA2 hV1 hV2 m1 m2 m3 huv hfine hE hO
      go_wp2_with fail
      refine (implFracOf_as _ _ u v fine _ HU.out HF.out).mono ?_
      rintro e w4 ⟨rfl, hb⟩
      have T4_0 := Lib.hid ((T3_0.out.alloc (.cells #[.int .i64 x, .int .i64 y] 26)).below hb)
      have T4_1 := Lib.hid ((T3_1.out.alloc (.cells #[.int .i64 x, .int .i64 y] 26)).below hb)
      have T4_2 := Lib.hid ((T3_2.out.alloc (.cells #[.int .i64 x, .int .i64 y] 26)).below hb)
      have T4_3 := Lib.hid ((Two.new w3 x y 26).below hb)
      have B4 := Lib.hid (below_on (below_more B3.out (.cells #[.int .i64 x, .int .i64 y] 26)) hb)
      clear l0 c0 d0 l1 c1 d1 l2 c2 d2
      clear hb
      obtain ⟨l0, c0, d0, -, -⟩ := T4_0.out
      obtain ⟨l1, c1, d1, -, -⟩ := T4_1.out
      obtain ⟨l2, c2, d2, -, -⟩ := T4_2.out
      obtain ⟨l3, c3, d3, -, -⟩ := T4_3.out
      cases fine
      · go_wp2
        go_ret
        exact ⟨rfl, (below_more B4.out (.cells #[.int .i64 u, .int .i64 v] 26))⟩
      · have hq3 := run_eqF u v x y true (eqF_of (HE.out rfl))
        go_wp2
        go_ret
        exact ⟨rfl, (below_more B4.out (.cells #[.int .i64 u, .int .i64 v] 26))⟩
  · have hl2 : (1048576 : Int) < (len0 : Int) := by omega
    clear w0
    go_enter Try.func5, Try.ntmps5
    go_wp2
    go_ret
    exact ⟨rfl, Below.refl _ _⟩

end Go.Proofs.Ytoancpdiilofmaa.fnFracAddText
