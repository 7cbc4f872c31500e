/-
  laws.FnSquaresRemainder returns true for every code. No condition.
-/
import Derived.Test.YtbcemgmfkddafaaGrp1
import Derived.Test.YtbcemgmfkddafaaGrp8
import Derived.Test.YtbcemgmfkddafaaGrp11
import Derived.Test.YtbcemgmfkddafaaDrawGa
import Derived.Test.YtbcemgmfkddafaaGrp13
namespace Go.Proofs.Ytbcemgmfkddafaa.fnSquaresRemainder
open Go.RowKit
set_option linter.unusedVariables false


set_option maxRecDepth 100000 in
set_option maxHeartbeats 2000000 in
/-- The law's walk: it returns true, and writes nothing that was there. -/
theorem walk (a0 : Option Addr) (len0 cap0 : Nat) (z0 : List Int) (w : World) (w0 : IsRow .u8 w a0 len0 cap0 z0) :
    Calls Try.prog 6 #[.slice a0 len0 cap0] w fun e w' => e = .returned (.bool true) ∧ Below w.heap.size w w' := by
  by_cases hl : len0 ≤ 1048576
  · skip
    have hcap := w0.cap
    have HB := Lib.hid w0.bytes; clear w0
    go_enter Try.func6, Try.ntmps6
    go_wp2_with fail
    refine (drawSqs_any a0 len0 cap0 _ _ HB.out hcap (by omega)).mono ?_
    rintro e w1 ⟨zs, av, cv, gs, ag, cg, rfl, ho, hz5, hog, hg5, hb⟩
    have B := Lib.hid hb
    obtain ⟨n, hn⟩ : ∃ n, zs.length = n := ⟨_, rfl⟩
    rw [hn] at ho hz5 ⊢
    have I := Lib.hid (IsInts.of_owned ho (by omega))
    have Hn := Lib.hid hn
    obtain ⟨ng, hng⟩ : ∃ ng, gs.length = ng := ⟨_, rfl⟩
    rw [hng] at hog hg5 ⊢
    have G := Lib.hid (IsInts.of_owned hog (by omega))
    have Hng := Lib.hid hng
    clear hb HB ho hog hn hng
    obtain ⟨v, hv⟩ : ∃ v, sqR zs gs = v := ⟨_, rfl⟩
    have HV := Lib.hid hv
    clear hv
    have hne : (v != v) = false := by simp
    have heq : (v == v) = true := by simp
    go_wp2_with fail
    refine (implSq_as _ n cv zs _ ng cg gs v _ I.out G.out HV.out).mono ?_
    rintro e w2 ⟨rfl, hb⟩
    have I := Lib.hid (I.out.below hb)
    have G := Lib.hid (G.out.below hb)
    have B := Lib.hid (B.out.trans (hb.mono B.out.size))
    clear hb
    go_wp2_with fail
    refine (specSq_as _ n cv zs _ ng cg gs v _ I.out G.out HV.out).mono ?_
    rintro e w3 ⟨rfl, hb⟩
    have I := Lib.hid (I.out.below hb)
    have G := Lib.hid (G.out.below hb)
    have B := Lib.hid (B.out.trans (hb.mono B.out.size))
    clear hb
    cases hk : okG zs gs
    · skip
      have hx1 : v = -1 := by rw [← HV.out, sqR, if_neg (by rw [hk]; decide)]
      have hneg : decide (v < 0) = true := decide_eq_true (by omega)
      clear hx1 hk
      go_wp2
      go_ret
      exact ⟨rfl, B.out⟩
    have hv1 : v = sqL (dfL zs gs) := by rw [← HV.out, sqR, if_pos hk]
    have hvb := sqs_all hk
    rw [← hv1] at hvb
    obtain ⟨p1, p2, p3, p4, p5, p6⟩ := okG_parts hk
    obtain ⟨h1, h2⟩ := (okG_iff _ _).1 hk
    obtain rfl : ng = n := by rw [← Hng.out, p5]; exact Hn.out
    rw [Hn.out] at p1 p2 p4
    have HK := Lib.hid hk
    have VO := Lib.hid h1
    have HV1 := Lib.hid hv1
    have HGL := Lib.hid p5
    have hneg : decide (v < 0) = false := decide_eq_false (by omega)
    have HB1 : Hid (∀ x : Nat, x < ng → 0 ≤ zs[x]?.getD 0 ∧ zs[x]?.getD 0 ≤ 100000) := fun x hx => by have := toB_at p1 hx; omega
    have HB2 : Hid (∀ x : Nat, x < ng → 0 ≤ gs[x]?.getD 0 ∧ gs[x]?.getD 0 ≤ 100000) := fun x hx => by have := toB_at p4 hx; omega
    obtain ⟨T, hT⟩ : ∃ T, totI zs = T := ⟨_, rfl⟩
    obtain ⟨S, hS⟩ : ∃ S, totI gs = S := ⟨_, rfl⟩
    have HT := Lib.hid hT
    have HS := Lib.hid hS
    rw [hT] at p3
    rw [hS] at p6
    clear hk h1 h2 hv1 p1 p4 p5 hT hS
    have hok : okLots (ng : Int) 0 = true := okLots_yes (by omega) (by omega) (by omega) (by omega)
    obtain ⟨pl, hpl⟩ : ∃ pl, lotsI (ng : Int) 0 = pl := ⟨_, rfl⟩
    have hll := lotsI_length hok
    have hlv := lotsI_valid hok
    rw [hpl] at hll hlv
    have hpn : pl.length = ng := by omega
    have hpz : pl.length = zs.length := by rw [Hn.out]; exact hpn
    have hlo := p99_low HK.out hlv hpz
    have hkk := p99_ok HK.out hlv hpz
    rw [HS.out] at hlo hkk
    obtain ⟨l, hl⟩ : ∃ l, upL zs S pl (lfN zs S) = l := ⟨_, rfl⟩
    rw [hl] at hlo hkk
    have hxl : l.length = ng := by rw [← hl, upL_length]; exact Hn.out
    obtain ⟨u, hu⟩ : ∃ u, sqL (dfL zs l) = u := ⟨_, rfl⟩
    have hub := sqs_all hkk.2
    rw [hu] at hub hlo
    rw [← HV1.out] at hlo
    have HU : Hid (sqR zs l = u) := by rw [Hid, sqR, if_pos hkk.2]; exact hu
    have HL : Hid (remL zs S pl = l) := by rw [Hid, remL, if_pos hkk.1]; exact hl
    have HOK := Lib.hid hok
    have HPL := Lib.hid hpl
    have HKR := Lib.hid hkk.1
    have hle := hlo.2
    have d1 : decide (0 ≤ u) = true := decide_eq_true hub.1
    have d2 : decide (u ≤ v) = true := decide_eq_true hle
    have hp5 : pl.length ≤ 5 := by omega
    clear hok hpl hll hlv hpz hlo hkk hl hu hle
    go_wp2_with fail
    refine (implLotsOf_as (ng : Int) 0 pl true _ HPL.out HOK.out).mono ?_
    rintro e w4 ⟨al, cl, rfl, ho, hb⟩
    have I := Lib.hid (I.out.below hb)
    have G := Lib.hid (G.out.below hb)
    have J := Lib.hid (IsInts.of_owned ho (by omega))
    have B := Lib.hid (B.out.trans (hb.mono B.out.size))
    clear hb ho
    rw [hpn] at J ⊢
    go_wp2_with fail
    refine (lawSum_as _ ng cg gs S _ G.out (by omega) HB2.out HS.out).mono ?_
    rintro e w9 ⟨rfl, rfl⟩
    go_wp2_with fail
    refine (implRem_as _ ng cv zs S _ ng cl pl l true _ I.out J.out HKR.out HL.out).mono ?_
    rintro e w5 ⟨ax, cx, rfl, ho, hb⟩
    have I := Lib.hid (I.out.below hb)
    have G := Lib.hid (G.out.below hb)
    have J := Lib.hid (J.out.below hb)
    have X := Lib.hid (IsInts.of_owned ho (by omega))
    have B := Lib.hid (B.out.trans (hb.mono B.out.size))
    clear hb ho
    rw [hxl] at X ⊢
    go_wp2_with fail
    refine (implSq_as _ ng cv zs _ ng cx l u _ I.out X.out HU.out).mono ?_
    rintro e w6 ⟨rfl, hb⟩
    have I := Lib.hid (I.out.below hb)
    have G := Lib.hid (G.out.below hb)
    have J := Lib.hid (J.out.below hb)
    have X := Lib.hid (X.out.below hb)
    have B := Lib.hid (B.out.trans (hb.mono B.out.size))
    clear hb
    go_wp2
    go_ret
    exact ⟨rfl, B.out⟩
  · clear w0
    go_enter Try.func6, Try.ntmps6
    go_wp2
    go_ret
    exact ⟨rfl, Below.refl _ _⟩

end Go.Proofs.Ytbcemgmfkddafaa.fnSquaresRemainder
