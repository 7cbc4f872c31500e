/-
  laws.FnFracOf returns true for every code: impl.FracOf answers as the model does at the two drawn numbers; the fraction is valid, it is their quotient, and three times both numbers give the same, where this succeeds. No condition but what the statement says itself (a code of at most 2^20 bytes).
-/
import Derived.Test.YtoancpdiilofmaaOpen
import Derived.Test.YtoancpdiilofmaaFracO
import Derived.Test.YtoancpdiilofmaaFracT
import Derived.Test.YtoancpdiilofmaaFracI
import Derived.Test.YtoancpdiilofmaaFracN
namespace Go.Proofs.Ytoancpdiilofmaa.fnFracOf
open Go.RowKit
set_option linter.unusedVariables false


set_option maxRecDepth 100000 in
set_option maxHeartbeats 2000000 in
/-- The law's walk: it returns true, and writes nothing that was there. -/
theorem walk (a0 : Option Addr) (len0 cap0 : Nat) (z0 : List Int) (w : World) (w0 : IsRow .u8 w a0 len0 cap0 z0) :
    Calls Try.prog 3 #[.slice a0 len0 cap0] w fun e w' => e = .returned (.bool true) ∧ Below w.heap.size w w' := by
  by_cases hl : len0 ≤ 1048576
  · have hcap := w0.cap
    have HB := Lib.hid w0.bytes; clear w0
    go_enter Try.func3, Try.ntmps3
    go_wp2_with fail
    refine (drawFracOf_any a0 len0 cap0 _ _ HB.out hcap (by omega)).mono ?_
    rintro e w1 ⟨n, d, rfl, hn, hd, hb⟩
    have B1 := Lib.hid hb; clear hb HB
    obtain ⟨x, y, hxy⟩ : ∃ x y, ofR n d = (x, y) := ⟨_, _, rfl⟩
    obtain ⟨ok, hok⟩ : ∃ ok, ofOk n d = ok := ⟨_, rfl⟩
    have HX := Lib.hid hxy
    have HO := Lib.hid hok
    clear hxy hok
    have hgd := run_guardF
    have hq1 := run_neqF x y x y false (by rw [eqF_self]; rfl)
    have hq2 := run_eqF x y x y true (eqF_self x y)
    go_wp2_with fail
    refine (implFracOf_as n d x y ok _ HX.out HO.out).mono ?_
    rintro e w2 ⟨rfl, hb⟩
    have B2 := Lib.hid (below_on B1.out hb)
    clear hb
    go_wp2_with fail
    refine (specFracOf_as n d x y ok _ HX.out HO.out).mono ?_
    rintro e w3 ⟨rfl, hb⟩
    have T3_0 := Lib.hid ((Two.new w2 x y 26).below hb)
    have B3 := Lib.hid (below_on (below_more B2.out (.cells #[.int .i64 x, .int .i64 y] 26)) hb)
    clear hb
    obtain ⟨l0, c0, d0, -, -⟩ := T3_0.out
    cases ok
    · go_wp2
      go_ret
      exact ⟨rfl, (below_more B3.out (.cells #[.int .i64 x, .int .i64 y] 26))⟩
    · have hO := HO.out
      obtain ⟨hN, hD⟩ := (ofOk_iff n d).1 hO
      obtain ⟨hval, hex⟩ := of_valid hO
      rw [HX.out] at hval hex
      obtain ⟨u, v, huv⟩ : ∃ u v, ofR (3 * n) (3 * d) = (u, v) := ⟨_, _, rfl⟩
      obtain ⟨fine, hfine⟩ : ∃ fine, ofOk (3 * n) (3 * d) = fine := ⟨_, rfl⟩
      have HU := Lib.hid huv
      have HF := Lib.hid hfine
      have HE : Hid (fine = true → (u, v) = (x, y)) := by
        intro h
        rw [← huv, ← HX.out]
        exact of_three hO (by rw [hfine]; exact h)
      have HV := Lib.hid hval
      obtain ⟨hx1, hy1, -⟩ := (fracB_iff _).1 hval
      have hx2 : -9999999 ≤ x ∧ x ≤ 9999999 := hx1
      have hy2 : 1 ≤ y ∧ y ≤ 9999999 := hy1
      have m1 := mul_bound hx2 (y := d) ⟨by omega, by omega⟩
      have m2 := mul_bound hN (y := y) ⟨by omega, by omega⟩
      have hp1 : IntKind.i64.wrap (3 * n) = 3 * n := IntWalk.i64_in _ (by omega)
      have hp2 : IntKind.i64.wrap (3 * d) = 3 * d := IntWalk.i64_in _ (by omega)
      have hp3 : IntKind.i64.wrap (x * d) = x * d := IntWalk.i64_in _ (by omega)
      have hp4 : IntKind.i64.wrap (n * y) = n * y := IntWalk.i64_in _ (by omega)
      have hex2 : x * d = n * y := hex
      have hexb : (x * d == n * y) = true := by simpa using hex2
      have hexc : (n * y == n * y) = true := by simp
      clear hO hval hex huv hfine hx1 hy1 m1 m2
      go_wp2_with fail
      refine (implFracOf_as _ _ u v fine _ HU.out HF.out).mono ?_
      rintro e w4 ⟨rfl, hb⟩
      have T4_0 := Lib.hid ((T3_0.out.alloc (.cells #[.int .i64 x, .int .i64 y] 26)).below hb)
      have T4_1 := Lib.hid ((Two.new w3 x y 26).below hb)
      have B4 := Lib.hid (below_on (below_more B3.out (.cells #[.int .i64 x, .int .i64 y] 26)) hb)
      clear l0 c0 d0
      clear hb
      obtain ⟨l0, c0, d0, -, -⟩ := T4_0.out
      obtain ⟨l1, c1, d1, -, -⟩ := T4_1.out
      go_wp2_with fail
      refine (implFrac_as x y true _ HV.out).mono ?_
      rintro e w5 ⟨rfl, hb⟩
      have T5_0 := Lib.hid ((T4_0.out.alloc (.cells #[.int .i64 u, .int .i64 v] 26)).below hb)
      have T5_1 := Lib.hid ((T4_1.out.alloc (.cells #[.int .i64 u, .int .i64 v] 26)).below hb)
      have T5_2 := Lib.hid ((Two.new w4 u v 26).below hb)
      have B5 := Lib.hid (below_on (below_more B4.out (.cells #[.int .i64 u, .int .i64 v] 26)) hb)
      clear l0 c0 d0 l1 c1 d1
      clear hb
      obtain ⟨l0, c0, d0, -, -⟩ := T5_0.out
      obtain ⟨l1, c1, d1, -, -⟩ := T5_1.out
      obtain ⟨l2, c2, d2, -, -⟩ := T5_2.out
      cases fine
      · go_wp2
        go_ret
        exact ⟨rfl, B5.out⟩
      · have hq3 := run_eqF u v x y true (eqF_of (HE.out rfl))
        go_wp2
        go_ret
        exact ⟨rfl, B5.out⟩
  · have hl2 : (1048576 : Int) < (len0 : Int) := by omega
    clear w0
    go_enter Try.func3, Try.ntmps3
    go_wp2
    go_ret
    exact ⟨rfl, Below.refl _ _⟩

end Go.Proofs.Ytoancpdiilofmaa.fnFracOf
