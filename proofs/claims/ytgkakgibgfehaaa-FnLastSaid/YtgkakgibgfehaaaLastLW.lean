/-
  laws.FnLast returns true for every code. No condition.
-/
import Derived.Test.YtgkakgibgfehaaaLyL1
namespace Go.Proofs.Ytgkakgibgfehaaa.fnLast
open Go.RowKit
set_option linter.unusedVariables false

theorem sum99 : ∀ {ps : List Pl}, (∀ p ∈ ps, p.2 ≤ 99) → sumL ps ≤ 99 * (ps.length : Int)
  | [], _ => by simp [sumL]
  | p :: t, h => by
    have h1 := h p (by simp)
    have h2 := sum99 (ps := t) (fun q hq => h q (by simp [hq]))
    have h3 : sumL (p :: t) = p.2 + sumL t := rfl
    rw [h3, List.length_cons]; omega
set_option maxRecDepth 100000 in
set_option maxHeartbeats 2000000 in
/-- The law's walk: it returns true, and writes nothing that was there. -/
theorem walk (a0 : Option Addr) (len0 cap0 : Nat) (z0 : List Int) (w : World) (w0 : IsRow .u8 w a0 len0 cap0 z0) :
    Calls Tq.prog 10 #[.slice a0 len0 cap0] w fun e w' => e = .returned (.bool true) ∧ Below w.heap.size w w' := by
  by_cases hl : len0 ≤ 1048576
  · skip
    have hcap := w0.cap
    have HB := Lib.hid w0.bytes; clear w0
    obtain ⟨i0, hi0, hz0, hz1, hz2⟩ := info_parts bool_infoP
    go_enter Tq.func10, Tq.ntmps10
    go_wp2_with fail
    refine (drawXLast_any a0 len0 cap0 _ _ HB.out hcap (by omega)).mono ?_
    rintro e w1 ⟨xs, g, c, n, rfl, hp, hn6, hb⟩
    have P := Lib.hid hp
    have B := Lib.hid hb
    have HSM := Lib.hid hp.2.1
    have hl13 := hp.2.2.2
    clear hb HB hp
    obtain ⟨N, hN⟩ : ∃ N, n = N := ⟨_, rfl⟩
    subst hN
    obtain ⟨v, hv⟩ : ∃ v, fitsB xs (n : Int) = v := ⟨_, rfl⟩
    obtain ⟨l, hL⟩ : ∃ l, lasR xs (n : Int) = l := ⟨_, rfl⟩
    have hl5 : l.length ≤ 5 := by rw [← hL]; exact lasR_short
    have HV := Lib.hid hv
    have HL := Lib.hid hL
    clear hv hL
    have hne : (v != v) = false := by cases v <;> rfl
    have heq : (v == v) = true := by cases v <;> rfl
    go_wp2_with fail
    refine (implLast_as _ _ _ xs (n : Int) v l _ P.out.piles HSM.out HV.out HL.out).mono ?_
    rintro e w2 ⟨a1, c1, rfl, ho, hb⟩
    have P := Lib.hid (P.out.below hb)
    have I1 := Lib.hid (IsInts.of_owned ho (by omega))
    have B := Lib.hid (B.out.trans (hb.mono B.out.size))
    clear hb ho
    go_wp2_with fail
    refine (specLast_as _ _ _ xs (n : Int) v l _ P.out.piles HSM.out HV.out HL.out).mono ?_
    rintro e w3 ⟨a2, c2, rfl, ho, hb⟩
    have P := Lib.hid (P.out.below hb)
    have I1 := Lib.hid (I1.out.below hb)
    have I2 := Lib.hid (IsInts.of_owned ho (by omega))
    have B := Lib.hid (B.out.trans (hb.mono B.out.size))
    clear hb ho
    go_wp2_with fail
    refine (sameInts_fst _ _ _ l _ _ _ I1.out I2.out).mono ?_
    rintro e w4 ⟨rfl, hd⟩
    have hb := hd.below w3.heap.size
    have P := Lib.hid (P.out.below hb)
    have I1 := Lib.hid (I1.out.below hb)
    have I2 := Lib.hid (I2.out.below hb)
    have B := Lib.hid (B.out.trans (hb.mono B.out.size))
    clear hb hd
    cases v
    · skip
      go_wp2_with fail
      refine (sameInts_fst _ _ _ l _ _ _ I1.out I2.out).mono ?_
      rintro e w5 ⟨rfl, hd⟩
      have hb := hd.below w4.heap.size
      have P := Lib.hid (P.out.below hb)
      have I1 := Lib.hid (I1.out.below hb)
      have I2 := Lib.hid (I2.out.below hb)
      have B := Lib.hid (B.out.trans (hb.mono B.out.size))
      clear hb hd
      go_wp2
      go_ret
      exact ⟨rfl, B.out⟩
    by_cases hn2 : n < 2
    · have hd2 : decide ((n : Int) < 2) = true := decide_eq_true (by omega)
      go_wp2_with fail
      refine (sameInts_fst _ _ _ l _ _ _ I1.out I2.out).mono ?_
      rintro e w5 ⟨rfl, hd⟩
      have hb := hd.below w4.heap.size
      have P := Lib.hid (P.out.below hb)
      have I1 := Lib.hid (I1.out.below hb)
      have I2 := Lib.hid (I2.out.below hb)
      have B := Lib.hid (B.out.trans (hb.mono B.out.size))
      clear hb hd
      go_wp2
      go_ret
      exact ⟨rfl, B.out⟩
    have hd2 : decide ((n : Int) < 2) = false := decide_eq_false (by omega)
    obtain ⟨hpv, hn1i, hn5i, -⟩ := fits_parts HV.out
    have hn5 : n ≤ 5 := by omega
    have HP := Lib.hid hpv
    have hx12 := (pilesB_pos hpv).2.2.2.2
    have hp1 := (pilesB_pos hpv).2.1
    have hp99 : ∀ p ∈ xs, p.2 ≤ 99 := (pilesB_pos hpv).2.2.1
    have hfb := (fits_both HV.out).2
    have hle : lasL xs n = l := by rw [← HL.out, lasR, if_pos HV.out, Int.toNat_natCast]
    have hll : l.length = n := by rw [← hle]; simp [lasL]
    have HSUM : Hid (totI l = wsum (fun t => if t.size = n then 1 else 0) xs) := by rw [Hid, ← hle]; exact las_sum (by omega) hfb
    have hpl : (plurC xs n).length = n := plurC_length _ _
    have HTOT : Hid (totalL xs = sumL xs) := by rw [Hid, totalL, if_pos hpv]
    obtain ⟨zs, hzs⟩ : ∃ zs, plurC xs n = zs := ⟨_, rfl⟩
    have HLF : Hid (∀ x : Nat, x < n → (0 ≤ l[x]?.getD 0 ∧ l[x]?.getD 0 ≤ 100000) ∧ l[x]?.getD 0 + zs[x]?.getD 0 ≤ sumL xs ∧ 0 ≤ zs[x]?.getD 0 ∧ zs[x]?.getD 0 ≤ 5940) := fun x hx => by
      have h1 := las_first (ps := xs) (by omega) hx hp1 (fun p hp => (hfb p hp).1)
      have h2 := plur_low HV.out x
      have h3 : 0 ≤ (lasL xs n)[x]?.getD 0 := by
        rw [lasL_at xs hx]
        exact wsum_nonneg (fun p _ => by unfold lasF; split <;> omega) hp1
      have h4 : sumL xs ≤ 99 * (xs.length : Int) := sum99 hp99
      rw [hle] at h1 h3
      rw [hzs] at h1 h2
      omega
    rw [hzs] at hpl
    have HF := HV
    have HZ : Hid ((if true = true then countsL xs (noneL n) else []) = zs) := hzs
    obtain ⟨T, hT⟩ : ∃ T, sumL xs = T := ⟨_, rfl⟩
    rw [hT] at HLF HTOT
    have hng : 2 ≤ n := by omega
    clear hpv hn1i hn5i hp1 hfb hle hzs hn2 hT
    rw [hll] at I1 I2 ⊢
    have IO := I1
    clear I1
    clear I2
    go_wp2
    go_loop [9, 10] (fun mv iv => ∃ (i : Nat) (m : Int), i ≤ xs.length ∧ iv = .int .i64 (i : Int) ∧ mv = .int .i64 m ∧ Hid (wsum (fun t => if t.size = n then 1 else 0) (xs.take i) = m) ∧ 0 ≤ m ∧ m ≤ 99 * (i : Int)) (fun _ iv => xs.length - (intOf iv).toNat)
    case atStart => exact ⟨0, 0, Nat.zero_le _, rfl, rfl, rfl, by omega, by omega⟩
    case round =>
      obtain ⟨i, m, hi, rfl, rfl, hM, hm0, hm1⟩ := hrel
      by_cases hlt : i < xs.length
      · obtain ⟨b, off, eb, hb, k0, k1⟩ := P.out.piles.at_text hlt
        injection eb with eb
        injection eb with eb1 eb2
        subst eb1
        subst eb2
        rw [Nat.zero_add] at k0 k1
        have hm99 := mAt_valid HP.out i
        have htx : (tAt xs i).size ≤ 5 := txt_five HP.out i
        have HN0 : wsum (fun t => if t.size = n then 1 else 0) (xs.take (i + 1)) = m + (if (tAt xs i).size = n then 1 else 0) * mAt xs i := by rw [wsum_take hlt, hM.out]
        obtain ⟨t, ht⟩ : ∃ t, tAt xs i = t := ⟨_, rfl⟩
        obtain ⟨q, hq⟩ : ∃ q, mAt xs i = q := ⟨_, rfl⟩
        rw [ht] at k0 HN0 htx
        rw [hq] at k1 HN0 hm99
        have hii : (i : Int) < (xs.length : Int) := by omega
        clear ht hq
        by_cases hs : t.size = n
        · have he : ((t.size : Int) == (n : Int)) = true := by simp [hs]
          have HN : Hid (wsum (fun t => if t.size = n then 1 else 0) (xs.take (i + 1)) = m + q) := by rw [Hid, HN0, if_pos hs, Int.one_mul]
          have hw1 : IntKind.i64.wrap (m + q) = m + q := IntWalk.i64_in _ (by omega)
          clear HN0
          go_wp2
          go_round
          case rel => exact ⟨i + 1, m + q, by omega, by go_num, rfl, HN, by omega, by omega⟩
          case measure => simp [intOf]; omega
        · have he : ((t.size : Int) == (n : Int)) = false := beq_eq_false_iff_ne.2 (by omega)
          have HN : Hid (wsum (fun t => if t.size = n then 1 else 0) (xs.take (i + 1)) = m) := by rw [Hid, HN0, if_neg hs]; omega
          clear HN0
          go_wp2
          go_round
          case rel => exact ⟨i + 1, m, by omega, by go_num, rfl, HN, by omega, by omega⟩
          case measure => simp [intOf]; omega
      · obtain rfl : i = xs.length := by omega
        have HE : Hid (totI l = m) := by rw [Hid, HSUM.out, ← hM.out, List.take_length]
        clear hM
        go_wp2_with (at_make; refine wpList_make_full _ rfl _ _ 24 rfl w4.heap.size 4 i0 (.bool false) 1 Tq.underlying24 hi0 hz0 hz1 .i64 .i64 _ _ n rfl rfl rfl rfl (by rw [hz2]; omega) (by unfold maxLen; omega) (Nat.le_refl _) ?_; intro w5 hown hgrow; have hb : Below w4.heap.size w4 w5 := (Below.refl _ w4).grown hgrow (Nat.le_refl _) (fun k e => by cases e); rw [nones_made] at hown; have JN := Lib.hid (nones_own hown (by omega) (Nat.le_refl _)); clear hown hgrow)
        have P := Lib.hid (P.out.below hb)
        have IO := Lib.hid (IO.out.below hb)
        have B := Lib.hid (B.out.trans (hb.mono B.out.size))
        clear hb
        refine (implCounts_to _ _ _ xs _ n n (noneL n) true zs _ P.out.piles HSM.out JN.out HF.out HZ.out).mono ?_
        rintro e w6 ⟨a1, c1, rfl, hi1, hb⟩
        rw [hpl] at hi1 ⊢
        have P := Lib.hid (P.out.below hb)
        have IO := Lib.hid (IO.out.below hb)
        have IC := Lib.hid hi1
        have B := Lib.hid (B.out.trans (hb.mono B.out.size))
        clear hb hi1 JN
        obtain ⟨jb, jo, ej, hjb, hjc⟩ := IO.out.2.2.2 (by omega)
        subst ej
        obtain ⟨cb, co, ec, hcb, hcc⟩ := IC.out.2.2.2 (by omega)
        subst ec
        have HJC := Lib.hid hjc
        have HCC := Lib.hid hcc
        clear hjc hcc
        go_wp2
        go_loopw [13] (fun iv wr => ∃ i : Nat, i ≤ n ∧ iv = .int .i64 (i : Int) ∧ Below w6.heap.size w6 wr) (fun iv _ => n - (intOf iv).toNat)
        case atStart => exact ⟨0, Nat.zero_le _, rfl, Below.refl _ _⟩
        case round =>
          obtain ⟨i, hi, rfl, hd⟩ := hrel
          by_cases hlt : i < n
          · have hii : (i : Int) < (n : Int) := by omega
            obtain ⟨d1, d2, d3, d4⟩ := HLF.out i hlt
            have cj := (hd.cell (p := ⟨jb, jo + i, none⟩) hjb).trans (HJC.out i hlt)
            have ck := (hd.cell (p := ⟨cb, co + i, none⟩) hcb).trans (HCC.out i hlt)
            have hjl := Nat.lt_of_lt_of_le hjb hd.size
            have hcl := Nat.lt_of_lt_of_le hcb hd.size
            have PW := Lib.hid (P.out.below hd)
            obtain ⟨y, hy⟩ : ∃ y, l[i]?.getD 0 = y := ⟨_, rfl⟩
            obtain ⟨z, hz⟩ : ∃ z, zs[i]?.getD 0 = z := ⟨_, rfl⟩
            rw [hy] at cj d1 d2
            rw [hz] at ck d2 d3 d4
            have u0 : ∀ u : Beh wr, u.w.cell? ⟨jb, jo + i, none⟩ = _ := Beh.cell cj hjl
            have u1 : ∀ u : Beh wr, u.w.cell? ⟨cb, co + i, none⟩ = _ := Beh.cell ck hcl
            have hwz : IntKind.i64.wrap (y + z) = y + z := IntWalk.i64_in _ (by omega)
            have hgt : decide (T < y + z) = false := decide_eq_false (by omega)
            clear hy hz
            go_wp2_with fail
            refine wp_region_below (by kernel_rfl) (by kernel_rfl) ?_
            repeat (go_big_quiet_step ((go_at_call 19; exact Calls.beh (implTotal_as _ _ _ xs T _ (PW.out.piles.below (Beh.below _)) HSM.out HTOT.out))))
            refine wpQuiet_nil ?_
            rintro w7 ⟨⟨w7, hb7⟩, rfl⟩
            have hd7 := hd.trans (hb7.mono hd.size)
            clear hb7 u0 u1
            go_wp2
            go_roundw
            case rel => exact ⟨i + 1, by omega, by go_num, hd7⟩
            case measure => simp [intOf]; omega
          · obtain rfl : i = n := by omega
            have IW := Lib.hid (IO.out.below hd)
            have hmm : (m == m) = true := by simp
            have hnn : ((i : Int) == (i : Int)) = true := by simp
            have HSB : Hid (∀ x : Nat, x < i → 0 ≤ l[x]?.getD 0 ∧ l[x]?.getD 0 ≤ 100000) := fun x hx => (HLF.out x hx).1
            go_wp2_with fail
            refine (lawSum_as _ _ _ l m _ IW.out (by omega) HSB.out HE.out).mono ?_
            rintro e w9 ⟨rfl, rfl⟩
            go_wp2
            go_ret
            exact ⟨rfl, B.out.trans (hd.mono B.out.size)⟩
  · clear w0
    go_enter Tq.func10, Tq.ntmps10
    go_wp2
    go_ret
    exact ⟨rfl, Below.refl _ _⟩

end Go.Proofs.Ytgkakgibgfehaaa.fnLast
