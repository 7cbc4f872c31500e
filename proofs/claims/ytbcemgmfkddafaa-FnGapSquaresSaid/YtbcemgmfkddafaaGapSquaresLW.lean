/-
  laws.FnGapSquares returns true for every code. No condition.
-/
import Derived.Test.YtbcemgmfkddafaaGrp1
import Derived.Test.YtbcemgmfkddafaaGrp8
import Derived.Test.YtbcemgmfkddafaaGrp11
import Derived.Test.YtbcemgmfkddafaaDrawGa
namespace Go.Proofs.Ytbcemgmfkddafaa.fnGapSquares
open Go.RowKit
set_option linter.unusedVariables false


set_option maxRecDepth 100000 in
set_option maxHeartbeats 2000000 in
/-- The law's walk: it returns true, and writes nothing that was there. -/
theorem walk (a0 : Option Addr) (len0 cap0 : Nat) (z0 : List Int) (w : World) (w0 : IsRow .u8 w a0 len0 cap0 z0) :
    Calls Try.prog 4 #[.slice a0 len0 cap0] w fun e w' => e = .returned (.bool true) ∧ Below w.heap.size w w' := by
  by_cases hl : len0 ≤ 1048576
  · skip
    have hcap := w0.cap
    have HB := Lib.hid w0.bytes; clear w0
    go_enter Try.func4, Try.ntmps4
    go_wp2_with fail
    refine (drawSqs_any a0 len0 cap0 _ _ HB.out hcap (by omega)).mono ?_
    rintro e w1 ⟨zs, av, cv, gs, ag, cg, rfl, ho, hz5, hog, hg5, hb⟩
    have B := Lib.hid hb
    obtain ⟨n, hn⟩ : ∃ n, zs.length = n := ⟨_, rfl⟩
    rw [hn] at ho hz5 ⊢
    have I := Lib.hid (IsInts.of_owned ho (by omega))
    have Hn := Lib.hid hn
    obtain ⟨ng, hng⟩ : ∃ ng, gs.length = ng := ⟨_, rfl⟩
    rw [hng] at hog hg5 ⊢
    have G := Lib.hid (IsInts.of_owned hog (by omega))
    have Hng := Lib.hid hng
    clear hb HB ho hog hn hng
    obtain ⟨v, hv⟩ : ∃ v, sqR zs gs = v := ⟨_, rfl⟩
    have HV := Lib.hid hv
    clear hv
    have hne : (v != v) = false := by simp
    have heq : (v == v) = true := by simp
    go_wp2_with fail
    refine (implSq_as _ n cv zs _ ng cg gs v _ I.out G.out HV.out).mono ?_
    rintro e w2 ⟨rfl, hb⟩
    have I := Lib.hid (I.out.below hb)
    have G := Lib.hid (G.out.below hb)
    have B := Lib.hid (B.out.trans (hb.mono B.out.size))
    clear hb
    go_wp2_with fail
    refine (specSq_as _ n cv zs _ ng cg gs v _ I.out G.out HV.out).mono ?_
    rintro e w3 ⟨rfl, hb⟩
    have I := Lib.hid (I.out.below hb)
    have G := Lib.hid (G.out.below hb)
    have B := Lib.hid (B.out.trans (hb.mono B.out.size))
    clear hb
    cases hk : okG zs gs
    · skip
      have hx1 : v = -1 := by rw [← HV.out, sqR, if_neg (by rw [hk]; decide)]
      have hneg : decide (v < 0) = true := decide_eq_true (by omega)
      clear hx1 hk
      go_wp2
      go_ret
      exact ⟨rfl, B.out⟩
    have hv1 : v = sqL (dfL zs gs) := by rw [← HV.out, sqR, if_pos hk]
    have hvb := sqs_all hk
    rw [← hv1] at hvb
    obtain ⟨p1, p2, p3, p4, p5, p6⟩ := okG_parts hk
    obtain ⟨h1, h2⟩ := (okG_iff _ _).1 hk
    obtain rfl : ng = n := by rw [← Hng.out, p5]; exact Hn.out
    rw [Hn.out] at p1 p2 p4
    have HK := Lib.hid hk
    have VO := Lib.hid h1
    have HV1 := Lib.hid hv1
    have HGL := Lib.hid p5
    have hneg : decide (v < 0) = false := decide_eq_false (by omega)
    have HB1 : Hid (∀ x : Nat, x < ng → 0 ≤ zs[x]?.getD 0 ∧ zs[x]?.getD 0 ≤ 100000) := fun x hx => by have := toB_at p1 hx; omega
    have HB2 : Hid (∀ x : Nat, x < ng → 0 ≤ gs[x]?.getD 0 ∧ gs[x]?.getD 0 ≤ 100000) := fun x hx => by have := toB_at p4 hx; omega
    obtain ⟨T, hT⟩ : ∃ T, totI zs = T := ⟨_, rfl⟩
    obtain ⟨S, hS⟩ : ∃ S, totI gs = S := ⟨_, rfl⟩
    have HT := Lib.hid hT
    have HS := Lib.hid hS
    rw [hT] at p3
    rw [hS] at p6
    clear hk h1 h2 hv1 p1 p4 p5 hT hS
    have hga := gap_all HK.out
    have hsq := p98_sq zs gs
    obtain ⟨g, hg⟩ : ∃ g, gapL (dfL zs gs) = g := ⟨_, rfl⟩
    rw [← HV1.out, hg, Hn.out] at hsq
    rw [hg] at hga
    have HG1 : Hid (gapR zs gs = g) := by rw [Hid, gapR, if_pos HK.out]; exact hg
    have hgg := two_mul hga hga
    obtain ⟨q, hq⟩ : ∃ q, g * g = q := ⟨_, rfl⟩
    rw [hq] at hsq hgg
    have hw1 : IntKind.i64.wrap (g * g) = q := by rw [hq]; exact IntWalk.i64_in _ (by omega)
    have hvn := two_mul hvb (show 0 ≤ (ng : Int) ∧ (ng : Int) ≤ 5 by omega)
    have hw2 : IntKind.i64.wrap (v * (ng : Int)) = v * (ng : Int) := IntWalk.i64_in _ (by omega)
    have d1 : decide (v ≤ q) = true := decide_eq_true hsq.1
    have d2 : decide (q ≤ v * (ng : Int)) = true := decide_eq_true hsq.2
    clear hg hq
    go_wp2_with fail
    refine (implGap_as _ ng cv zs _ ng cg gs g _ I.out G.out HG1.out).mono ?_
    rintro e w4 ⟨rfl, hb⟩
    have I := Lib.hid (I.out.below hb)
    have G := Lib.hid (G.out.below hb)
    have B := Lib.hid (B.out.trans (hb.mono B.out.size))
    clear hb
    go_wp2
    go_ret
    exact ⟨rfl, B.out⟩
  · clear w0
    go_enter Try.func4, Try.ntmps4
    go_wp2
    go_ret
    exact ⟨rfl, Below.refl _ _⟩

end Go.Proofs.Ytbcemgmfkddafaa.fnGapSquares
