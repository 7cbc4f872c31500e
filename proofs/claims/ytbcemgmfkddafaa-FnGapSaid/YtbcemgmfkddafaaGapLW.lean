/-
  laws.FnGap returns true for every code. No condition.
-/
import Derived.Test.YtbcemgmfkddafaaGrp1
import Derived.Test.YtbcemgmfkddafaaGrp8
import Derived.Test.YtbcemgmfkddafaaGrp11
import Derived.Test.YtbcemgmfkddafaaDrawGa
namespace Go.Proofs.Ytbcemgmfkddafaa.fnGap
open Go.RowKit
set_option linter.unusedVariables false


set_option maxRecDepth 100000 in
set_option maxHeartbeats 2000000 in
/-- The law's walk: it returns true, and writes nothing that was there. -/
theorem walk (a0 : Option Addr) (len0 cap0 : Nat) (z0 : List Int) (w : World) (w0 : IsRow .u8 w a0 len0 cap0 z0) :
    Calls Try.prog 3 #[.slice a0 len0 cap0] w fun e w' => e = .returned (.bool true) ∧ Below w.heap.size w w' := by
  by_cases hl : len0 ≤ 1048576
  · skip
    have hcap := w0.cap
    have HB := Lib.hid w0.bytes; clear w0
    go_enter Try.func3, Try.ntmps3
    go_wp2_with fail
    refine (drawGap_any a0 len0 cap0 _ _ HB.out hcap (by omega)).mono ?_
    rintro e w1 ⟨zs, av, cv, gs, ag, cg, rfl, ho, hz5, hog, hg5, hb⟩
    have B := Lib.hid hb
    obtain ⟨n, hn⟩ : ∃ n, zs.length = n := ⟨_, rfl⟩
    rw [hn] at ho hz5 ⊢
    have I := Lib.hid (IsInts.of_owned ho (by omega))
    have Hn := Lib.hid hn
    obtain ⟨ng, hng⟩ : ∃ ng, gs.length = ng := ⟨_, rfl⟩
    rw [hng] at hog hg5 ⊢
    have G := Lib.hid (IsInts.of_owned hog (by omega))
    have Hng := Lib.hid hng
    clear hb HB ho hog hn hng
    obtain ⟨v, hv⟩ : ∃ v, gapR zs gs = v := ⟨_, rfl⟩
    have HV := Lib.hid hv
    clear hv
    have hne : (v != v) = false := by simp
    have heq : (v == v) = true := by simp
    go_wp2_with fail
    refine (implGap_as _ n cv zs _ ng cg gs v _ I.out G.out HV.out).mono ?_
    rintro e w2 ⟨rfl, hb⟩
    have I := Lib.hid (I.out.below hb)
    have G := Lib.hid (G.out.below hb)
    have B := Lib.hid (B.out.trans (hb.mono B.out.size))
    clear hb
    go_wp2_with fail
    refine (specGap_as _ n cv zs _ ng cg gs v _ I.out G.out HV.out).mono ?_
    rintro e w3 ⟨rfl, hb⟩
    have I := Lib.hid (I.out.below hb)
    have G := Lib.hid (G.out.below hb)
    have B := Lib.hid (B.out.trans (hb.mono B.out.size))
    clear hb
    cases hk : okG zs gs
    · skip
      have hx1 : v = -1 := by rw [← HV.out, gapR, if_neg (by rw [hk]; decide)]
      have hneg : decide (v < 0) = true := decide_eq_true (by omega)
      clear hx1 hk
      go_wp2
      go_ret
      exact ⟨rfl, B.out⟩
    have hv1 : v = gapL (dfL zs gs) := by rw [← HV.out, gapR, if_pos hk]
    have hvb := gap_all hk
    rw [← hv1] at hvb
    obtain ⟨p1, p2, p3, p4, p5, p6⟩ := okG_parts hk
    obtain ⟨h1, h2⟩ := (okG_iff _ _).1 hk
    obtain rfl : ng = n := by rw [← Hng.out, p5]; exact Hn.out
    rw [Hn.out] at p1 p2 p4
    have HK := Lib.hid hk
    have VO := Lib.hid h1
    have HV1 := Lib.hid hv1
    have HGL := Lib.hid p5
    have hneg : decide (v < 0) = false := decide_eq_false (by omega)
    have HB1 : Hid (∀ x : Nat, x < ng → 0 ≤ zs[x]?.getD 0 ∧ zs[x]?.getD 0 ≤ 100000) := fun x hx => by have := toB_at p1 hx; omega
    have HB2 : Hid (∀ x : Nat, x < ng → 0 ≤ gs[x]?.getD 0 ∧ gs[x]?.getD 0 ≤ 100000) := fun x hx => by have := toB_at p4 hx; omega
    obtain ⟨T, hT⟩ : ∃ T, totI zs = T := ⟨_, rfl⟩
    obtain ⟨S, hS⟩ : ∃ S, totI gs = S := ⟨_, rfl⟩
    have HT := Lib.hid hT
    have HS := Lib.hid hS
    rw [hT] at p3
    rw [hS] at p6
    clear hk h1 h2 hv1 p1 p4 p5 hT hS
    have hev : v % 2 = 0 := by rw [HV1.out]; exact p97_even HGL.out
    have HEX : Hid ((v == 0) = exTo zs gs ng) := by
      have h := p97_exact zs gs
      rw [← HV1.out, Hn.out] at h
      rw [Hid, ← h]
      by_cases e : v = 0 <;> simp [e]
    have hr : v.tmod 2 = 0 := by rw [Int.tmod_eq_emod_of_nonneg (by omega)]; exact hev
    have HD : Hid (∀ i : Nat, i < ng → (0 ≤ zs[i]?.getD 0 * S ∧ zs[i]?.getD 0 * S ≤ 1980) ∧ (0 ≤ gs[i]?.getD 0 * T ∧ gs[i]?.getD 0 * T ≤ 9900)) := fun i hi => by
      have := dfF_in HK.out (i := i) (by rw [Hn.out]; exact hi)
      rw [HS.out, HT.out] at this
      exact ⟨this.1, this.2.1⟩
    obtain ⟨vb, vo, rfl, hvb2, hvc⟩ := I.out.2.2.2 (by omega)
    obtain ⟨gb, go, rfl, hgb2, hgc⟩ := G.out.2.2.2 (by omega)
    have HVC := Lib.hid hvc
    have HGC := Lib.hid hgc
    clear hvc hgc hev
    go_wp2
    go_loopw [7, 8] (fun fv iv wr => ∃ (i : Nat) (f : Bool), i ≤ ng ∧ iv = .int .i64 (i : Int) ∧ fv = .bool f ∧ Hid (exTo zs gs i = f) ∧ Below w3.heap.size w3 wr) (fun _ iv _ => ng - (intOf iv).toNat)
    case atStart => exact ⟨0, true, Nat.zero_le _, rfl, rfl, by simp [Hid, exTo], Below.refl _ _⟩
    case round =>
      obtain ⟨i, f, hi, rfl, rfl, hF, hd⟩ := hrel
      by_cases hlt : i < ng
      · have hii : (i : Int) < (ng : Int) := by omega
        have IW := Lib.hid (I.out.below hd)
        have GW := Lib.hid (G.out.below hd)
        have cv0 := (hd.cell (p := ⟨vb, vo + i, none⟩) hvb2).trans (HVC.out i hlt)
        have cg0 := (hd.cell (p := ⟨gb, go + i, none⟩) hgb2).trans (HGC.out i hlt)
        have hvl := Nat.lt_of_lt_of_le hvb2 hd.size
        have hgl := Nat.lt_of_lt_of_le hgb2 hd.size
        obtain ⟨d1, d2⟩ := HD.out i hlt
        have HST := exTo_succ zs gs i
        rw [hF.out, HT.out, HS.out] at HST
        obtain ⟨z, hz⟩ : ∃ z, zs[i]?.getD 0 = z := ⟨_, rfl⟩
        obtain ⟨y, hy⟩ : ∃ y, gs[i]?.getD 0 = y := ⟨_, rfl⟩
        rw [hz] at cv0 d1 HST
        rw [hy] at cg0 d2 HST
        have u0 : ∀ u : Beh wr, u.w.cell? ⟨vb, vo + i, none⟩ = _ := Beh.cell cv0 hvl
        have u1 : ∀ u : Beh wr, u.w.cell? ⟨gb, go + i, none⟩ = _ := Beh.cell cg0 hgl
        have hw1 : IntKind.i64.wrap (z * S) = z * S := IntWalk.i64_in _ (by omega)
        have hw2 : IntKind.i64.wrap (y * T) = y * T := IntWalk.i64_in _ (by omega)
        have HST := Lib.hid HST
        clear hz hy cv0 cg0
        cases f
        · have HN : Hid (exTo zs gs (i + 1) = false) := by rw [Hid, HST.out]; rfl
          go_wp2_with fail
          refine wp_region_below (by kernel_rfl) (by kernel_rfl) ?_
          repeat (first | go_big_quiet_step (fail) | go_big_quiet_skip)
          refine wpQuiet_nil ?_
          rintro w7 ⟨⟨w7, hb7⟩, rfl⟩
          have hd7 := hd.trans (hb7.mono hd.size)
          clear hb7
          go_wp2
          go_roundw
          case rel => exact ⟨i + 1, false, by omega, by go_num, rfl, HN, hd7⟩
          case measure => simp [intOf]; omega
        · by_cases he : y * T = z * S
          · have HN : Hid (exTo zs gs (i + 1) = true) := by rw [Hid, HST.out, decide_eq_true he]; rfl
            have hq : (y * T == z * S) = true := by simp [he]
            clear he
            go_wp2_with fail
            refine wp_region_below (by kernel_rfl) (by kernel_rfl) ?_
            iterate 7 (go_big_quiet_step (fail))
            go_big_quiet_step ((go_at_call 18; exact Calls.behSame (lawSum_as _ ng cv zs T _ (IW.out.below (Beh.below _)) (by omega) HB1.out HT.out)))
            iterate 6 (go_big_quiet_step (fail))
            go_big_quiet_step ((go_at_call 18; exact Calls.behSame (lawSum_as _ ng cg gs S _ (GW.out.below (Beh.below _)) (by omega) HB2.out HS.out)))
            repeat (go_big_quiet_step (fail))
            refine wpQuiet_nil ?_
            rintro w7 ⟨⟨w7, hb7⟩, rfl⟩
            have hd7 := hd.trans (hb7.mono hd.size)
            clear hb7
            go_wp2
            go_roundw
            case rel => exact ⟨i + 1, true, by omega, by go_num, rfl, HN, hd7⟩
            case measure => simp [intOf]; omega
          · have HN : Hid (exTo zs gs (i + 1) = false) := by rw [Hid, HST.out, decide_eq_false he]; rfl
            have hq : (y * T == z * S) = false := by simp [he]
            clear he
            go_wp2_with fail
            refine wp_region_below (by kernel_rfl) (by kernel_rfl) ?_
            iterate 7 (go_big_quiet_step (fail))
            go_big_quiet_step ((go_at_call 18; exact Calls.behSame (lawSum_as _ ng cv zs T _ (IW.out.below (Beh.below _)) (by omega) HB1.out HT.out)))
            iterate 6 (go_big_quiet_step (fail))
            go_big_quiet_step ((go_at_call 18; exact Calls.behSame (lawSum_as _ ng cg gs S _ (GW.out.below (Beh.below _)) (by omega) HB2.out HS.out)))
            repeat (go_big_quiet_step (fail))
            refine wpQuiet_nil ?_
            rintro w7 ⟨⟨w7, hb7⟩, rfl⟩
            have hd7 := hd.trans (hb7.mono hd.size)
            clear hb7
            go_wp2
            go_roundw
            case rel => exact ⟨i + 1, false, by omega, by go_num, rfl, HN, hd7⟩
            case measure => simp [intOf]; omega
      · obtain rfl : i = ng := by omega
        have hvf : (v == 0) = f := by rw [HEX.out]; exact hF.out
        have hff : (f == f) = true := by cases f <;> rfl
        go_wp2
        go_ret
        exact ⟨rfl, B.out.trans (hd.mono B.out.size)⟩
  · clear w0
    go_enter Try.func3, Try.ntmps3
    go_wp2
    go_ret
    exact ⟨rfl, Below.refl _ _⟩

end Go.Proofs.Ytbcemgmfkddafaa.fnGap
