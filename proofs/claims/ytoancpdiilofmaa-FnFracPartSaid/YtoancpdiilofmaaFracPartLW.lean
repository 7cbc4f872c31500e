/-
  laws.FnFracPart returns true for every code: impl.FracValid answers as the model does at the drawn fraction; of a valid one, twice both parts are not valid, nor is it with the denominator 0. No condition but what the statement says itself (a code of at most 2^20 bytes).
-/
import Derived.Test.YtoancpdiilofmaaOpen
import Derived.Test.YtoancpdiilofmaaFracE
import Derived.Test.YtoancpdiilofmaaFracT
import Derived.Test.YtoancpdiilofmaaFracI
import Derived.Test.YtoancpdiilofmaaFracN
namespace Go.Proofs.Ytoancpdiilofmaa.fnFracPart
open Go.RowKit
set_option linter.unusedVariables false


set_option maxRecDepth 100000 in
set_option maxHeartbeats 2000000 in
/-- The law's walk: it returns true, and writes nothing that was there. -/
theorem walk (a0 : Option Addr) (len0 cap0 : Nat) (z0 : List Int) (w : World) (w0 : IsRow .u8 w a0 len0 cap0 z0) :
    Calls Try.prog 10 #[.slice a0 len0 cap0] w fun e w' => e = .returned (.bool true) ∧ Below w.heap.size w w' := by
  by_cases hl : len0 ≤ 1048576
  · have hcap := w0.cap
    have HB := Lib.hid w0.bytes; clear w0
    go_enter Try.func10, Try.ntmps10
    go_wp2_with fail
    refine (drawFracValid_any a0 len0 cap0 _ _ HB.out hcap (by omega)).mono ?_
    rintro e w1 ⟨x, y, rfl, hb⟩
    have B1 := Lib.hid hb; clear hb HB
    obtain ⟨v, hv⟩ : ∃ v, fracB (x, y) = v := ⟨_, rfl⟩
    have HV := Lib.hid hv
    clear hv
    go_wp2_with fail
    refine (implFrac_as x y v _ HV.out).mono ?_
    rintro e w2 ⟨rfl, hb⟩
    have T2_0 := Lib.hid ((Two.new w1 x y 26).below hb)
    have B2 := Lib.hid (below_on (below_more B1.out (.cells #[.int .i64 x, .int .i64 y] 26)) hb)
    clear hb
    obtain ⟨l0, c0, d0, -, -⟩ := T2_0.out
    go_wp2_with fail
    refine (specFrac_as x y v _ HV.out).mono ?_
    rintro e w3 ⟨rfl, hb⟩
    have T3_0 := Lib.hid (T2_0.out.below hb)
    have B3 := Lib.hid (below_on B2.out hb)
    clear l0 c0 d0
    clear hb
    obtain ⟨l0, c0, d0, -, -⟩ := T3_0.out
    cases v
    · go_wp2
      go_ret
      exact ⟨rfl, B3.out⟩
    · by_cases hx0 : x = 0
      · have hz : (x == 0) = true := by simp [hx0]
        subst hx0
        go_wp2
        go_ret
        exact ⟨rfl, B3.out⟩
      · have hz : (x == 0) = false := by simpa using hx0
        obtain ⟨hA1, hA2, -⟩ := (fracB_iff _).1 HV.out
        have hA1' : -9999999 ≤ x ∧ x ≤ 9999999 := hA1
        have hA2' : 1 ≤ y ∧ y ≤ 9999999 := hA2
        have hp1 : IntKind.i64.wrap (2 * x) = 2 * x := IntWalk.i64_in _ (by omega)
        have hp2 : IntKind.i64.wrap (2 * y) = 2 * y := IntWalk.i64_in _ (by omega)
        have H2 : Hid (fracB (2 * x, 2 * y) = false) := part_two (x, y)
        have H0 : Hid (fracB (x, 0) = false) := part_zero x
        clear hA1 hA2 hx0
        go_wp2_with fail
        refine (implFrac_as (2 * x) (2 * y) false _ H2.out).mono ?_
        rintro e w4 ⟨rfl, hb⟩
        have T4_0 := Lib.hid (T3_0.out.below hb)
        have B4 := Lib.hid (below_on B3.out hb)
        clear l0 c0 d0
        clear hb
        obtain ⟨l0, c0, d0, -, -⟩ := T4_0.out
        go_wp2_with fail
        refine (implFrac_as x 0 false _ H0.out).mono ?_
        rintro e w5 ⟨rfl, hb⟩
        have T5_0 := Lib.hid (T4_0.out.below hb)
        have B5 := Lib.hid (below_on B4.out hb)
        clear l0 c0 d0
        clear hb
        obtain ⟨l0, c0, d0, -, -⟩ := T5_0.out
        go_wp2
        go_ret
        exact ⟨rfl, B5.out⟩
  · have hl2 : (1048576 : Int) < (len0 : Int) := by omega
    clear w0
    go_enter Try.func10, Try.ntmps10
    go_wp2
    go_ret
    exact ⟨rfl, Below.refl _ _⟩

end Go.Proofs.Ytoancpdiilofmaa.fnFracPart
