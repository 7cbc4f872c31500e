/-
  laws.FnExactFracTimes returns true for every two fractions: impl.FracTimes answers as the model does. No condition.
-/
import Derived.Test.YtoancpdiilofmaaOpen
import Derived.Test.YtoancpdiilofmaaFracT
import Derived.Test.YtoancpdiilofmaaFracI
import Derived.Test.YtoancpdiilofmaaFracL
import Derived.Test.YtoancpdiilofmaaFracN
import Derived.Test.YtoancpdiilofmaaMade
namespace Go.Proofs.Ytoancpdiilofmaa.fnExactFracTimes
open Go.RowKit
set_option linter.unusedVariables false


set_option maxRecDepth 100000 in
set_option maxHeartbeats 2000000 in
/-- The law's walk: it returns true, and writes nothing that was there. -/
theorem walk (a0 b0 : Int) (a1 b1 : Int) (w : World) (w0 : (Lit.int .i64 a0).wf = true) (x0 : (Lit.int .i64 b0).wf = true) (w1 : (Lit.int .i64 a1).wf = true) (x1 : (Lit.int .i64 b1).wf = true) :
    Calls Try.prog 14 #[.agg #[.int .i64 a0, .int .i64 b0], .agg #[.int .i64 a1, .int .i64 b1]] w fun e w' => e = .returned (.bool true) ∧ Below w.heap.size w w' := by
  obtain ⟨x, y, hxy⟩ : ∃ x y, mulR (a0, b0) (a1, b1) = (x, y) := ⟨_, _, rfl⟩
  obtain ⟨ok, hok⟩ : ∃ ok, mulOk (a0, b0) (a1, b1) = ok := ⟨_, rfl⟩
  have HX := Lib.hid hxy
  have HO := Lib.hid hok
  clear hxy hok w0 x0 w1 x1
  have hnn : (ok != ok) = false := by simp
  have D00 := Duo.new w a0 b0 a1 b1 36 36
  have B00 := two_allocs w (.cells #[.int .i64 a0, .int .i64 b0] 36) (.cells #[.int .i64 a1, .int .i64 b1] 36)
  go_enter Try.func14, Try.ntmps14
  go_upto_region 1 with fail
  generalize hW0 : (w.alloc (.cells #[.int .i64 a0, .int .i64 b0] 36)).alloc (.cells #[.int .i64 a1, .int .i64 b1] 36) = W0 at *
  have D0 := Lib.hid D00
  have B0 := Lib.hid B00
  clear D00 B00 hW0
  obtain ⟨⟨la0, p0, q0, -, -⟩, ⟨lb0, r0, s0, -, -⟩⟩ := D0.out
  go_cut [5, 6] from 9 to 16 (fun s5 s6 wx => MadeB W0 x y ok s5 s6 wx)
  case first =>
    go_region_law (first
      | (have d2 := D2.out; go_simp; go_at_call 25; refine (specFracTimes_as a0 b0 a1 b1 x y ok _ HX.out HO.out).mono ?_; rintro e w3 ⟨rfl, hb⟩; clear d2; (first | (have N3 := Lib.hid (N2.out.below hb); have C3 := Lib.hid (below_on C2.out hb); obtain ⟨ln3, n3, m3, g3, h3⟩ := N3.out; clear hb) | (have N3 := Lib.hid ((Two.new w2 0 0 26).below hb); have C3 := Lib.hid (below_on (below_more C2.out (.cells #[.int .i64 0, .int .i64 0] 26)) hb); obtain ⟨ln3, n3, m3, g3, h3⟩ := N3.out; clear hb) | (have C3 := Lib.hid (below_on C2.out hb); clear hb)))
      | (have d1 := D1.out; go_simp; go_at_call 31; refine (toFrac_any a1 b1 _).mono ?_; rintro e w2 ⟨rfl, hb⟩; clear d1; (first | (have N2 := Lib.hid (N1.out.below hb); have C2 := Lib.hid (below_on C1.out hb); have D2 := Lib.hid (D0.out.below C2.out); obtain ⟨⟨la2, p2, q2, -, -⟩, ⟨lb2, r2, s2, -, -⟩⟩ := D2.out; clear hb) | (have N2 := Lib.hid ((Two.new w1 0 0 26).below hb); have C2 := Lib.hid (below_on (below_more C1.out (.cells #[.int .i64 0, .int .i64 0] 26)) hb); have D2 := Lib.hid (D0.out.below C2.out); obtain ⟨⟨la2, p2, q2, -, -⟩, ⟨lb2, r2, s2, -, -⟩⟩ := D2.out; clear hb) | (have C2 := Lib.hid (below_on C1.out hb); have D2 := Lib.hid (D0.out.below C2.out); obtain ⟨⟨la2, p2, q2, -, -⟩, ⟨lb2, r2, s2, -, -⟩⟩ := D2.out; clear hb)))
      | (go_simp; go_at_call 31; refine (toFrac_any a0 b0 _).mono ?_; rintro e w1 ⟨rfl, hb0⟩; have hb := below_drew hb0; (first | (have N1 := Lib.hid ((Two.new W0 0 0 26).below hb); have C1 := Lib.hid (below_on (below_more (Below.refl _ W0) (.cells #[.int .i64 0, .int .i64 0] 26)) hb); have D1 := Lib.hid (D0.out.below C1.out); obtain ⟨⟨la1, p1, q1, -, -⟩, ⟨lb1, r1, s1, -, -⟩⟩ := D1.out; clear hb hb0) | (have C1 := Lib.hid (below_on (Below.refl _ W0) hb); have D1 := Lib.hid (D0.out.below C1.out); obtain ⟨⟨la1, p1, q1, -, -⟩, ⟨lb1, r1, s1, -, -⟩⟩ := D1.out; clear hb hb0))))
    all_goals
      have hs1 := C1.out.size
      have hs2 := C2.out.size
      go_wp2_with fail
      go_meet
      first
        | exact made_new C3.out
        | exact made_old N3.out C3.out (by omega)
  case rest =>
  obtain ⟨p, rfl, rfl, hT, hB⟩ := hcut
  have E0 := Lib.hid (below_on B0.out hB)
  have F0 := Lib.hid (D0.out.below hB)
  have G0 := Lib.hid hT
  clear hT hB D0 B0 la0 p0 q0 lb0 r0 s0
  clear W0
  rename World => W0
  have D0 := F0
  obtain ⟨⟨la0, p0, q0, -, -⟩, ⟨lb0, r0, s0, -, -⟩⟩ := D0.out
  go_upto_region 2 with fail
  go_cut [7, 8] from 17 to 24 (fun s5 s6 wx => MadeB W0 x y ok s5 s6 wx)
  case first =>
    go_region_law (first
      | (have d2 := D2.out; go_simp; go_at_call 24; refine (implFracTimes_as a0 b0 a1 b1 x y ok _ HX.out HO.out).mono ?_; rintro e w3 ⟨rfl, hb⟩; clear d2; (first | (have N3 := Lib.hid (N2.out.below hb); have C3 := Lib.hid (below_on C2.out hb); obtain ⟨ln3, n3, m3, g3, h3⟩ := N3.out; clear hb) | (have N3 := Lib.hid ((Two.new w2 0 0 26).below hb); have C3 := Lib.hid (below_on (below_more C2.out (.cells #[.int .i64 0, .int .i64 0] 26)) hb); obtain ⟨ln3, n3, m3, g3, h3⟩ := N3.out; clear hb) | (have C3 := Lib.hid (below_on C2.out hb); clear hb)))
      | (have d1 := D1.out; go_simp; go_at_call 31; refine (toFrac_any a1 b1 _).mono ?_; rintro e w2 ⟨rfl, hb⟩; clear d1; (first | (have N2 := Lib.hid (N1.out.below hb); have C2 := Lib.hid (below_on C1.out hb); have D2 := Lib.hid (D0.out.below C2.out); obtain ⟨⟨la2, p2, q2, -, -⟩, ⟨lb2, r2, s2, -, -⟩⟩ := D2.out; clear hb) | (have N2 := Lib.hid ((Two.new w1 0 0 26).below hb); have C2 := Lib.hid (below_on (below_more C1.out (.cells #[.int .i64 0, .int .i64 0] 26)) hb); have D2 := Lib.hid (D0.out.below C2.out); obtain ⟨⟨la2, p2, q2, -, -⟩, ⟨lb2, r2, s2, -, -⟩⟩ := D2.out; clear hb) | (have C2 := Lib.hid (below_on C1.out hb); have D2 := Lib.hid (D0.out.below C2.out); obtain ⟨⟨la2, p2, q2, -, -⟩, ⟨lb2, r2, s2, -, -⟩⟩ := D2.out; clear hb)))
      | (go_simp; go_at_call 31; refine (toFrac_any a0 b0 _).mono ?_; rintro e w1 ⟨rfl, hb0⟩; have hb := below_drew hb0; (first | (have N1 := Lib.hid ((Two.new W0 0 0 26).below hb); have C1 := Lib.hid (below_on (below_more (Below.refl _ W0) (.cells #[.int .i64 0, .int .i64 0] 26)) hb); have D1 := Lib.hid (D0.out.below C1.out); obtain ⟨⟨la1, p1, q1, -, -⟩, ⟨lb1, r1, s1, -, -⟩⟩ := D1.out; clear hb hb0) | (have C1 := Lib.hid (below_on (Below.refl _ W0) hb); have D1 := Lib.hid (D0.out.below C1.out); obtain ⟨⟨la1, p1, q1, -, -⟩, ⟨lb1, r1, s1, -, -⟩⟩ := D1.out; clear hb hb0))))
    all_goals
      have hs1 := C1.out.size
      have hs2 := C2.out.size
      go_wp2_with fail
      go_meet
      first
        | exact made_new C3.out
        | exact made_old N3.out C3.out (by omega)
  case rest =>
  obtain ⟨q, rfl, rfl, hT, hB⟩ := hcut
  have E1 := Lib.hid (below_on E0.out hB)
  have G1 := Lib.hid (G0.out.below hB)
  obtain ⟨lq, t0, t9, -, -⟩ := hT
  obtain ⟨lp, u0, u9, -, -⟩ := G1.out
  clear la0 p0 q0 lb0 r0 s0 hB
  go_wp2_with fail
  refine (eqFrac_as x y x y true _ (eqF_self x y)).mono ?_
  rintro e wl ⟨rfl, hb⟩
  have E2 := Lib.hid (below_on E1.out hb)
  clear hb
  go_wp2
  go_ret
  exact ⟨rfl, E2.out⟩

end Go.Proofs.Ytoancpdiilofmaa.fnExactFracTimes
