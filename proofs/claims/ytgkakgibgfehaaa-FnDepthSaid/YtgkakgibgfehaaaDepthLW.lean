/-
  laws.FnDepth returns true for every code. No condition.
-/
import Derived.Test.YtgkakgibgfehaaaLyD1
namespace Go.Proofs.Ytgkakgibgfehaaa.fnDepth
open Go.RowKit
set_option linter.unusedVariables false


set_option maxRecDepth 100000 in
set_option maxHeartbeats 2000000 in
/-- The law's walk: it returns true, and writes nothing that was there. -/
theorem walk (a0 : Option Addr) (len0 cap0 : Nat) (z0 : List Int) (w : World) (w0 : IsRow .u8 w a0 len0 cap0 z0) :
    Calls Tq.prog 8 #[.slice a0 len0 cap0] w fun e w' => e = .returned (.bool true) ∧ Below w.heap.size w w' := by
  by_cases hl : len0 ≤ 1048576
  · skip
    have hcap := w0.cap
    have HB := Lib.hid w0.bytes; clear w0
    obtain ⟨i0, hi0, hz0, hz1, hz2⟩ := info_parts bool_infoP
    go_enter Tq.func8, Tq.ntmps8
    go_wp2_with fail
    refine (drawDepth_any a0 len0 cap0 _ _ HB.out hcap (by omega)).mono ?_
    rintro e w1 ⟨xs, g, c, n, d, rfl, hp, hn6, hd0, hd6, hb⟩
    have P := Lib.hid hp
    have B := Lib.hid hb
    have HSM := Lib.hid hp.2.1
    have hl13 := hp.2.2.2
    clear hb HB hp
    obtain ⟨v, hv⟩ : ∃ v, depOk xs (n : Int) d = v := ⟨_, rfl⟩
    obtain ⟨l, hL⟩ : ∃ l, depR xs (n : Int) d = l := ⟨_, rfl⟩
    have hl5 : l.length ≤ 5 := by rw [← hL]; exact depR_short
    have HV := Lib.hid hv
    have HL := Lib.hid hL
    clear hv hL
    have hne : (v != v) = false := by cases v <;> rfl
    have heq : (v == v) = true := by cases v <;> rfl
    go_wp2_with fail
    refine (implDepth_as _ _ _ xs (n : Int) d v l _ P.out.piles HSM.out HV.out HL.out).mono ?_
    rintro e w2 ⟨a1, c1, rfl, ho, hb⟩
    have P := Lib.hid (P.out.below hb)
    have I1 := Lib.hid (IsInts.of_owned ho (by omega))
    have B := Lib.hid (B.out.trans (hb.mono B.out.size))
    clear hb ho
    go_wp2_with fail
    refine (specDepth_as _ _ _ xs (n : Int) d v l _ P.out.piles HSM.out HV.out HL.out).mono ?_
    rintro e w3 ⟨a2, c2, rfl, ho, hb⟩
    have P := Lib.hid (P.out.below hb)
    have I1 := Lib.hid (I1.out.below hb)
    have I2 := Lib.hid (IsInts.of_owned ho (by omega))
    have B := Lib.hid (B.out.trans (hb.mono B.out.size))
    clear hb ho
    go_wp2_with fail
    refine (sameInts_fst _ _ _ l _ _ _ I1.out I2.out).mono ?_
    rintro e w4 ⟨rfl, hd⟩
    have hb := hd.below w3.heap.size
    have P := Lib.hid (P.out.below hb)
    have I1 := Lib.hid (I1.out.below hb)
    have I2 := Lib.hid (I2.out.below hb)
    have B := Lib.hid (B.out.trans (hb.mono B.out.size))
    clear hb hd
    cases v
    · skip
      go_wp2_with fail
      refine (sameInts_fst _ _ _ l _ _ _ I1.out I2.out).mono ?_
      rintro e w5 ⟨rfl, hd⟩
      have hb := hd.below w4.heap.size
      have P := Lib.hid (P.out.below hb)
      have I1 := Lib.hid (I1.out.below hb)
      have I2 := Lib.hid (I2.out.below hb)
      have B := Lib.hid (B.out.trans (hb.mono B.out.size))
      clear hb hd
      go_wp2
      go_ret
      exact ⟨rfl, B.out⟩
    · skip
      have hok := HV.out
      have hfit : fitsB xs (n : Int) = true := by unfold depOk at hok; simp only [Bool.and_eq_true] at hok; exact hok.1
      have hdb : 0 ≤ d ∧ d ≤ 5 := by
        unfold depOk at hok
        simp only [Bool.and_eq_true] at hok
        have := hok.2
        simpa [inB] using this
      obtain ⟨hpv, hn1, hn5, -⟩ := fits_parts hfit
      have hn5' : n ≤ 5 := by omega
      have HF := Lib.hid hfit
      have hp1 := (pilesB_pos hpv).2.1
      obtain ⟨D, rfl⟩ := Int.eq_ofNat_of_zero_le hdb.1
      have hD5 : D ≤ 5 := by omega
      have hle : depL xs n D = l := by rw [← HL.out, depR, if_pos HV.out, Int.toNat_natCast, Int.toNat_natCast]
      have hll : l.length = n := by rw [← hle]; exact depL_length _ _ _
      have hpl : (plurC xs n).length = n := plurC_length _ _
      have HTOT : Hid (totalL xs = sumL xs) := by rw [Hid, totalL, if_pos hpv]
      obtain ⟨zs, hzs⟩ : ∃ zs, plurC xs n = zs := ⟨_, rfl⟩
      obtain ⟨l2, hl2⟩ : ∃ l2, depL xs n (D - 1) = l2 := ⟨_, rfl⟩
      have hll2 : l2.length = n := by rw [← hl2]; exact depL_length _ _ _
      have HLF : Hid (∀ x : Nat, x < n → l2[x]?.getD 0 ≤ l[x]?.getD 0 ∧ l[x]?.getD 0 ≤ sumL xs) := fun x hx => by
        rw [← hle, ← hl2]
        exact ⟨depL_more hp1 (by omega) hx, depL_most hp1 D hx⟩
      have K0 : Hid (depOk xs (n : Int) 0 = true) := by rw [Hid, depOk, hfit]; rfl
      have K1 : Hid (depOk xs (n : Int) 1 = true) := by rw [Hid, depOk, hfit]; rfl
      have R0 : Hid (depR xs (n : Int) 0 = List.replicate n 0) := by rw [Hid, depR, if_pos K0.out, Int.toNat_natCast]; exact depL_zero _ _
      have R1 : Hid (depR xs (n : Int) 1 = zs) := by rw [Hid, depR, if_pos K1.out, Int.toNat_natCast, ← hzs]; exact depL_one _ _
      have K2 : Hid (∀ q : Int, q = ((D - 1 : Nat) : Int) → depOk xs (n : Int) q = true ∧ depR xs (n : Int) q = l2) := fun q hq => by
        subst hq
        have h1 : depOk xs (n : Int) ((D - 1 : Nat) : Int) = true := by rw [depOk_in (by omega) (by omega)]; exact hfit
        exact ⟨h1, by rw [depR, if_pos h1, Int.toNat_natCast, Int.toNat_natCast]; exact hl2⟩
      have hlr : (List.replicate n (0 : Int)).length = n := by simp
      have HS0 : Hid (totI (List.replicate n (0 : Int)) = 0) := by
        rw [Hid, ← depL_zero xs n]
        have h0 : ∀ m : Nat, totI (List.replicate m (0 : Int)) = 0 := fun m => by
          induction m with
          | zero => rfl
          | succ m ih => rw [List.replicate_succ, totI_cons, ih]; rfl
        rw [depL_zero]; exact h0 n
      rw [hzs] at hpl
      have HZ : Hid ((if true = true then countsL xs (noneL n) else []) = zs) := hzs
      obtain ⟨T, hT⟩ : ∃ T, sumL xs = T := ⟨_, rfl⟩
      rw [hT] at HLF HTOT
      have hng : 1 ≤ n := by omega
      clear hpv hn1 hn5 hp1 hle hzs hT hl2 hok hfit
      rw [hll] at I1 I2 ⊢
      clear I2
      have IO := I1
      clear I1
      go_wp2_with fail
      refine (implDepth_as _ _ _ xs (n : Int) 0 true (List.replicate n 0) _ P.out.piles HSM.out K0.out R0.out).mono ?_
      rintro e w5 ⟨a3, c3, rfl, ho, hb⟩
      have P := Lib.hid (P.out.below hb)
      have IO := Lib.hid (IO.out.below hb)
      have IZ := Lib.hid (IsInts.of_owned ho (by omega))
      have B := Lib.hid (B.out.trans (hb.mono B.out.size))
      clear hb ho
      rw [hlr] at IZ ⊢
      go_wp2_with fail
      refine (implDepth_as _ _ _ xs (n : Int) 1 true zs _ P.out.piles HSM.out K1.out R1.out).mono ?_
      rintro e w6 ⟨a4, c4, rfl, ho, hb⟩
      have P := Lib.hid (P.out.below hb)
      have IO := Lib.hid (IO.out.below hb)
      have IZ := Lib.hid (IZ.out.below hb)
      have IE := Lib.hid (IsInts.of_owned ho (by omega))
      have B := Lib.hid (B.out.trans (hb.mono B.out.size))
      clear hb ho
      rw [hpl] at IE ⊢
      go_wp2_with (at_make; refine wpList_make_full _ rfl _ _ 24 rfl w6.heap.size 4 i0 (.bool false) 1 Tq.underlying24 hi0 hz0 hz1 .i64 .i64 _ _ n rfl rfl rfl rfl (by rw [hz2]; omega) (by unfold maxLen; omega) (Nat.le_refl _) ?_; intro w7 hown hgrow; have hb : Below w6.heap.size w6 w7 := (Below.refl _ w6).grown hgrow (Nat.le_refl _) (fun k e => by cases e); rw [nones_made] at hown; have JN := Lib.hid (nones_own hown (by omega) (Nat.le_refl _)); clear hown hgrow)
      have P := Lib.hid (P.out.below hb)
      have IO := Lib.hid (IO.out.below hb)
      have IZ := Lib.hid (IZ.out.below hb)
      have IE := Lib.hid (IE.out.below hb)
      have B := Lib.hid (B.out.trans (hb.mono B.out.size))
      clear hb
      refine (implCounts_to _ _ _ xs _ n n (noneL n) true zs _ P.out.piles HSM.out JN.out HF.out HZ.out).mono ?_
      rintro e w8 ⟨a1, c1, rfl, hi1, hb⟩
      rw [hpl] at hi1 ⊢
      have P := Lib.hid (P.out.below hb)
      have IO := Lib.hid (IO.out.below hb)
      have IZ := Lib.hid (IZ.out.below hb)
      have IE := Lib.hid (IE.out.below hb)
      have IC := Lib.hid hi1
      have B := Lib.hid (B.out.trans (hb.mono B.out.size))
      clear hb hi1 JN
      obtain ⟨k2, r2⟩ := K2.out (max ((D : Int) - 1) 0) (by omega)
      have hwd : IntKind.i64.wrap ((D : Int) - 1) = (D : Int) - 1 := IntWalk.i64_in _ (by omega)
      have KK := Lib.hid k2
      have RR := Lib.hid r2
      clear k2 r2
      go_wp2_with fail
      refine (implDepth_as _ _ _ xs (n : Int) (max ((D : Int) - 1) 0) true l2 _ P.out.piles HSM.out KK.out RR.out).mono ?_
      rintro e w9 ⟨a5, c5, rfl, ho, hb⟩
      have P := Lib.hid (P.out.below hb)
      have IO := Lib.hid (IO.out.below hb)
      have IZ := Lib.hid (IZ.out.below hb)
      have IE := Lib.hid (IE.out.below hb)
      have IC := Lib.hid (IC.out.below hb)
      have IL := Lib.hid (IsInts.of_owned ho (by omega))
      have B := Lib.hid (B.out.trans (hb.mono B.out.size))
      clear hb ho
      rw [hll2] at IL ⊢
      obtain ⟨jb, jo, ej, hjb, hjc⟩ := IO.out.2.2.2 (by omega)
      subst ej
      obtain ⟨cb, co, ec, hcb, hcc⟩ := IL.out.2.2.2 (by omega)
      subst ec
      have HJC := Lib.hid hjc
      have HCC := Lib.hid hcc
      clear hjc hcc
      go_wp2
      go_loopw [18] (fun iv wr => ∃ i : Nat, i ≤ n ∧ iv = .int .i64 (i : Int) ∧ Below w9.heap.size w9 wr) (fun iv _ => n - (intOf iv).toNat)
      case atStart => exact ⟨0, Nat.zero_le _, rfl, Below.refl _ _⟩
      case round =>
        obtain ⟨i, hi, rfl, hd⟩ := hrel
        by_cases hlt : i < n
        · have hii : (i : Int) < (n : Int) := by omega
          obtain ⟨d1, d2⟩ := HLF.out i hlt
          have cj := (hd.cell (p := ⟨jb, jo + i, none⟩) hjb).trans (HJC.out i hlt)
          have ck := (hd.cell (p := ⟨cb, co + i, none⟩) hcb).trans (HCC.out i hlt)
          have hjl := Nat.lt_of_lt_of_le hjb hd.size
          have hcl := Nat.lt_of_lt_of_le hcb hd.size
          have PW := Lib.hid (P.out.below hd)
          obtain ⟨y, hy⟩ : ∃ y, l[i]?.getD 0 = y := ⟨_, rfl⟩
          obtain ⟨z, hz⟩ : ∃ z, l2[i]?.getD 0 = z := ⟨_, rfl⟩
          rw [hy] at cj d1 d2
          rw [hz] at ck d1
          have u0 : ∀ u : Beh wr, u.w.cell? ⟨jb, jo + i, none⟩ = _ := Beh.cell cj hjl
          have u1 : ∀ u : Beh wr, u.w.cell? ⟨cb, co + i, none⟩ = _ := Beh.cell ck hcl
          have hlt3 : decide (y < z) = false := decide_eq_false (by omega)
          have hgt : decide (T < y) = false := decide_eq_false (by omega)
          clear hy hz
          go_wp2_with fail
          refine wp_region_below (by kernel_rfl) (by kernel_rfl) ?_
          repeat (go_big_quiet_step ((go_at_call 19; exact Calls.beh (implTotal_as _ _ _ xs T _ (PW.out.piles.below (Beh.below _)) HSM.out HTOT.out))))
          refine wpQuiet_nil ?_
          rintro w7 ⟨⟨w7, hb7⟩, rfl⟩
          have hd7 := hd.trans (hb7.mono hd.size)
          clear hb7 u0 u1
          go_wp2
          go_roundw
          case rel => exact ⟨i + 1, by omega, by go_num, hd7⟩
          case measure => simp [intOf]; omega
        · obtain rfl : i = n := by omega
          have ZW := Lib.hid (IZ.out.below hd)
          have EW := Lib.hid (IE.out.below hd)
          have FW := Lib.hid (IC.out.below hd)
          have hnn : ((i : Int) == (i : Int)) = true := by simp
          have HSB : Hid (∀ x : Nat, x < i → 0 ≤ (List.replicate i (0 : Int))[x]?.getD 0 ∧ (List.replicate i (0 : Int))[x]?.getD 0 ≤ 100000) := fun x hx => by simp [hx]
          go_wp2_with fail
          refine (lawSum_as _ _ _ (List.replicate i 0) 0 _ ZW.out (by omega) HSB.out HS0.out).mono ?_
          rintro e w9 ⟨rfl, rfl⟩
          go_wp2_with fail
          refine (sameInts_fst _ _ _ zs _ _ _ EW.out FW.out).mono ?_
          rintro e w9 ⟨rfl, hd9⟩
          have BB := B.out.trans (hd.mono B.out.size)
          go_wp2
          go_ret
          exact ⟨rfl, BB.trans ((hd9.below _).mono BB.size)⟩
  · clear w0
    go_enter Tq.func8, Tq.ntmps8
    go_wp2
    go_ret
    exact ⟨rfl, Below.refl _ _⟩

end Go.Proofs.Ytgkakgibgfehaaa.fnDepth
