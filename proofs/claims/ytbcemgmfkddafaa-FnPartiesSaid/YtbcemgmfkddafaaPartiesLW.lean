/-
  laws.FnParties returns true for every code. No condition.
-/
import Derived.Test.YtbcemgmfkddafaaGrp1
import Derived.Test.YtbcemgmfkddafaaGrp8
import Derived.Test.YtbcemgmfkddafaaGrp14
import Derived.Test.YtbcemgmfkddafaaMostL
import Derived.Test.YtbcemgmfkddafaaDrawGa
namespace Go.Proofs.Ytbcemgmfkddafaa.fnParties
open Go.RowKit
set_option linter.unusedVariables false


set_option maxRecDepth 100000 in
set_option maxHeartbeats 2000000 in
/-- The law's walk: it returns true, and writes nothing that was there. -/
theorem walk (a0 : Option Addr) (len0 cap0 : Nat) (z0 : List Int) (w : World) (w0 : IsRow .u8 w a0 len0 cap0 z0) :
    Calls Try.prog 9 #[.slice a0 len0 cap0] w fun e w' => e = .returned (.bool true) ∧ Below w.heap.size w w' := by
  by_cases hl : len0 ≤ 1048576
  · skip
    have hcap := w0.cap
    have HB := Lib.hid w0.bytes; clear w0
    go_enter Try.func9, Try.ntmps9
    go_wp2_with fail
    refine (drawPar_any a0 len0 cap0 _ _ HB.out hcap (by omega)).mono ?_
    rintro e w1 ⟨zs, av, cv, rfl, ho, hz5, hb⟩
    have B := Lib.hid hb
    obtain ⟨n, hn⟩ : ∃ n, zs.length = n := ⟨_, rfl⟩
    rw [hn] at ho hz5 ⊢
    have I := Lib.hid (IsInts.of_owned ho (by omega))
    have Hn := Lib.hid hn
    clear hb HB ho hn
    obtain ⟨v, hv⟩ : ∃ v, voteB zs = v := ⟨_, rfl⟩
    obtain ⟨x, y, hxy⟩ : ∃ x y, parR zs = (x, y) := ⟨_, _, rfl⟩
    have HV := Lib.hid hv
    have HX := Lib.hid hxy
    clear hv hxy
    have hgd := run_guardF
    have hq1 := run_neqF x y x y false (by rw [eqF_self]; rfl)
    have hq2 := run_eqF x y x y true (eqF_self x y)
    have hne : (v != v) = false := by cases v <;> rfl
    have heq : (v == v) = true := by cases v <;> rfl
    go_wp2_with fail
    refine (implPar_as _ n cv zs x y v _ I.out HV.out HX.out).mono ?_
    rintro e w2 ⟨rfl, hb⟩
    have I := Lib.hid (I.out.below hb)
    have B := Lib.hid (B.out.trans (hb.mono B.out.size))
    clear hb
    go_wp2_with fail
    have BA := Lib.hid ((Below.refl _ w2).alloc (Nat.le_refl _) (.cells #[.int .i64 x, .int .i64 y] 38))
    have T := Lib.hid (Two.new w2 x y 38)
    obtain ⟨wa, hwa⟩ : ∃ wa, w2.alloc (.cells #[.int .i64 x, .int .i64 y] 38) = wa := ⟨_, rfl⟩
    obtain ⟨P4, hP4⟩ : ∃ P4, w2.heap.size = P4 := ⟨_, rfl⟩
    have I := Lib.hid (I.out.below (hwa ▸ BA.out))
    have B := Lib.hid (B.out.trans ((hwa ▸ BA.out : Below w2.heap.size w2 wa).mono B.out.size))
    rw [hwa, hP4] at T
    rw [hwa]
    (try rw [hP4])
    clear BA hwa hP4
    refine (specPar_as _ n cv zs x y v _ I.out HV.out HX.out).mono ?_
    rintro e w3 ⟨rfl, hb⟩
    have I := Lib.hid (I.out.below hb)
    have T := Lib.hid (T.out.below hb)
    have B := Lib.hid (B.out.trans (hb.mono B.out.size))
    clear hb
    cases v
    · obtain ⟨l0, c0, d0, -, -⟩ := T.out
      go_wp2
      go_ret
      exact ⟨rfl, below_more B.out (.cells #[.int .i64 x, .int .i64 y] 38)⟩
    have hpb := par_bound HV.out
    have hlaw := p103_law HV.out
    have HF : Hid (partF zs = (x, y)) := by rw [Hid, ← HX.out, parR, if_pos HV.out]
    rw [HF.out] at hpb hlaw
    have hx1 : 1 ≤ x ∧ x ≤ 245025 := hpb.1
    have hy1 : 1 ≤ y ∧ y ≤ 49005 := hpb.2
    obtain ⟨⟨x1, x2, x3⟩, x4⟩ := (voteB_iff zs).1 HV.out
    rw [Hn.out] at x1 x2 x3
    have XV := Lib.hid x1
    clear hpb x1 x4
    obtain ⟨m, hm⟩ : ∃ m, mstI zs = m := ⟨_, rfl⟩
    have HM := Lib.hid hm
    have hyx : y ≤ x := hlaw.1
    have hxn : x ≤ someN zs * y := hlaw.2.1
    have HSM : Hid (smTo zs n = true → (x, y) = (someN zs, 1)) := by rw [Hid, ← Hn.out]; exact hlaw.2.2
    have hsn := some_in zs n
    rw [List.take_of_length_le (by rw [Hn.out]; exact Nat.le_refl _)] at hsn
    obtain ⟨vb, vo, rfl, hvb2, hvc⟩ := I.out.2.2.2 (by omega)
    have HVC := Lib.hid hvc
    clear hm hlaw hvc
    obtain ⟨l0, c0, d0, -, -⟩ := T.out
    go_wp2
    clear l0 c0 d0
    go_loopw [8, 9, 10] (fun cv' fv iv wr => ∃ (i : Nat) (c : Int) (f : Bool), i ≤ n ∧ iv = .int .i64 (i : Int) ∧ cv' = .int .i64 c ∧ fv = .bool f ∧ Hid (someN (zs.take i) = c) ∧ Hid (smTo zs i = f) ∧ Hid (Below w3.heap.size w3 wr)) (fun _ _ iv _ => n - (intOf iv).toNat)
    case atStart => exact ⟨0, 0, true, Nat.zero_le _, rfl, rfl, rfl, by simp [Hid, someN, totI_nil], by simp [Hid, smTo], (Below.refl _ w3).alloc (Nat.le_refl _) _⟩
    case round =>
      obtain ⟨i, c, f, hi, rfl, rfl, rfl, hC, hF, hd⟩ := hrel
      by_cases hlt : i < n
      · have hii : (i : Int) < (n : Int) := by omega
        have IW := Lib.hid (I.out.below hd.out)
        have cv0 := (hd.out.cell (p := ⟨vb, vo + i, none⟩) hvb2).trans (HVC.out i hlt)
        have hvl := Nat.lt_of_lt_of_le hvb2 hd.out.size
        have hzb := toB_at XV.out hlt
        have hcb := some_in zs i
        rw [hC.out] at hcb
        have HN0 := some_take (l := zs) (k := i) (by rw [Hn.out]; exact hlt)
        have HST := smTo_succ zs i
        rw [hC.out] at HN0
        rw [hF.out, HM.out] at HST
        obtain ⟨z, hz⟩ : ∃ z, zs[i]?.getD 0 = z := ⟨_, rfl⟩
        rw [hz] at cv0 hzb HN0 HST
        have u0 : ∀ u : Beh wr, u.w.cell? ⟨vb, vo + i, none⟩ = _ := Beh.cell cv0 hvl
        have HST := Lib.hid HST
        clear hz
        by_cases hz0 : 0 < z
        · have HN : Hid (someN (zs.take (i + 1)) = c + 1) := by rw [Hid, HN0, if_pos hz0]
          have dz : decide (0 < z) = true := decide_eq_true hz0
          have hwc : IntKind.i64.wrap (c + 1) = c + 1 := IntWalk.i64_in _ (by omega)
          have dz0 : decide (z ≤ 0) = false := decide_eq_false (by omega)
          clear HN0
          cases f
          · have HN2 : Hid (smTo zs (i + 1) = false) := by rw [Hid, HST.out]; rfl
            go_wp2_with fail
            refine wp_region_below (by kernel_rfl) (by kernel_rfl) ?_
            repeat (first | go_big_quiet_step (fail) | go_big_quiet_skip)
            refine wpQuiet_nil ?_
            rintro w7 ⟨⟨w7, hb7⟩, rfl⟩
            have hd7 := Lib.hid (hd.out.trans (hb7.mono hd.out.size))
            clear hb7 u0
            go_wp2
            go_roundw
            case rel => exact ⟨i + 1, c + 1, false, by omega, by go_num, rfl, rfl, HN, HN2, hd7⟩
            case measure => simp [intOf]; omega
          · by_cases he : z = m
            · have HN2 : Hid (smTo zs (i + 1) = true) := by rw [Hid, HST.out, dz0, decide_eq_true he]; rfl
              have hq : (z == m) = true := by simp [he]
              go_wp2_with fail
              refine wp_region_below (by kernel_rfl) (by kernel_rfl) ?_
              iterate 7 (go_big_quiet_step (fail))
              go_big_quiet_step ((go_at_call 31; exact Calls.behSame (lawMost_as _ n cv zs m _ (IW.out.below (Beh.below _)) HM.out)))
              repeat (go_big_quiet_step (fail))
              refine wpQuiet_nil ?_
              rintro w7 ⟨⟨w7, hb7⟩, rfl⟩
              have hd7 := Lib.hid (hd.out.trans (hb7.mono hd.out.size))
              clear hb7 u0
              go_wp2
              go_roundw
              case rel => exact ⟨i + 1, c + 1, true, by omega, by go_num, rfl, rfl, HN, HN2, hd7⟩
              case measure => simp [intOf]; omega
            · have HN2 : Hid (smTo zs (i + 1) = false) := by rw [Hid, HST.out, dz0, decide_eq_false he]; rfl
              have hq : (z == m) = false := by simp [he]
              go_wp2_with fail
              refine wp_region_below (by kernel_rfl) (by kernel_rfl) ?_
              iterate 7 (go_big_quiet_step (fail))
              go_big_quiet_step ((go_at_call 31; exact Calls.behSame (lawMost_as _ n cv zs m _ (IW.out.below (Beh.below _)) HM.out)))
              repeat (go_big_quiet_step (fail))
              refine wpQuiet_nil ?_
              rintro w7 ⟨⟨w7, hb7⟩, rfl⟩
              have hd7 := Lib.hid (hd.out.trans (hb7.mono hd.out.size))
              clear hb7 u0
              go_wp2
              go_roundw
              case rel => exact ⟨i + 1, c + 1, false, by omega, by go_num, rfl, rfl, HN, HN2, hd7⟩
              case measure => simp [intOf]; omega
        · have HN : Hid (someN (zs.take (i + 1)) = c) := by rw [Hid, HN0, if_neg hz0]; omega
          have dz : decide (0 < z) = false := decide_eq_false hz0
          have HN2 : Hid (smTo zs (i + 1) = f) := by rw [Hid, HST.out, decide_eq_true (show z ≤ 0 by omega)]; cases f <;> rfl
          clear HN0 u0
          go_wp2
          go_roundw
          case rel => exact ⟨i + 1, c, f, by omega, by go_num, rfl, rfl, HN, HN2, hd⟩
          case measure => simp [intOf]; omega
      · obtain rfl : i = n := by omega
        have hce : someN zs = c := by rw [← hC.out, List.take_of_length_le (by rw [Hn.out]; exact Nat.le_refl _)]
        rw [hce] at hxn hsn HSM
        have hcy := two_mul hsn (show 0 ≤ y ∧ y ≤ 49005 by omega)
        obtain ⟨q, hqq⟩ : ∃ q, c * y = q := ⟨_, rfl⟩
        rw [hqq] at hxn hcy
        have hwq : IntKind.i64.wrap (c * y) = q := by rw [hqq]; exact IntWalk.i64_in _ (by omega)
        have e1 : decide (y ≤ x) = true := decide_eq_true hyx
        have e2 : decide (x ≤ q) = true := decide_eq_true hxn
        have T9 := T.out.below hd.out
        have B9 := B.out.trans (hd.out.mono B.out.size)
        obtain ⟨l0, c0, d0, -, -⟩ := T9
        cases f
        · clear hq1 hq2 hF HSM hqq
          go_wp2
          go_ret
          exact ⟨rfl, B9⟩
        · have hq3 := run_eqF x y c 1 true (eqF_of (a := (x, y)) (b := (c, 1)) (HSM.out hF.out))
          clear hq1 hq2 hF HSM hqq
          go_wp2
          go_ret
          exact ⟨rfl, B9⟩
  · clear w0
    go_enter Try.func9, Try.ntmps9
    go_wp2
    go_ret
    exact ⟨rfl, Below.refl _ _⟩

end Go.Proofs.Ytbcemgmfkddafaa.fnParties
