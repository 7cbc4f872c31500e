/-
  laws.FnTransferSolid returns true for every code. No condition.
-/
import Derived.Test.YtafnmongglhlaaaGrp1
import Derived.Test.YtafnmongglhlaaaGrp25
import Derived.Test.YtafnmongglhlaaaGrpS
import Derived.Test.YtafnmongglhlaaaGrpY
import Derived.Test.YtafnmongglhlaaaGrp6
import Derived.Test.YtafnmongglhlaaaGrp18
namespace Go.Proofs.Ytafnmongglhlaaa.fnTransferSolid
open Go.RowKit
set_option linter.unusedVariables false


set_option maxRecDepth 100000 in
set_option maxHeartbeats 2000000 in
/-- The law's walk: it returns true, and writes nothing that was there. -/
theorem walk (a0 : Option Addr) (len0 cap0 : Nat) (z0 : List Int) (w : World) (w0 : IsRow .u8 w a0 len0 cap0 z0) :
    Calls Try.prog 8 #[.slice a0 len0 cap0] w fun e w' => e = .returned (.bool true) ∧ Below w.heap.size w w' := by
  by_cases hl : len0 ≤ 1048576
  · skip
    have hcap := w0.cap
    have HB := Lib.hid w0.bytes; clear w0
    go_enter Try.func8, Try.ntmps8
    go_wp2_with fail
    refine (drawTfWins_any a0 len0 cap0 _ _ HB.out hcap (by omega)).mono ?_
    rintro e w1 ⟨xs, g, c, lots, al, cl, s, rfl, hp, hpv, hol, hl5, hs4, hb⟩
    have B := Lib.hid hb
    have P := Lib.hid hp
    have HSM := Lib.hid hp.2.1
    have HPV := Lib.hid hpv
    obtain ⟨n, hn⟩ : ∃ n, lots.length = n := ⟨_, rfl⟩
    rw [hn] at hol hl5 ⊢
    have J := Lib.hid (IsInts.of_owned hol (by omega))
    have HN := Lib.hid hn
    have hx12 := (pilesB_pos hpv).2.2.2.2
    clear hb HB hp hol hn hpv
    obtain ⟨win, hwin⟩ : ∃ win, tfWinners xs lots (s : Int) = win := ⟨_, rfl⟩
    have HWIN := Lib.hid hwin
    have hw5 : win.length ≤ 5 := by rw [← hwin]; exact tfWinners_short _ _ _
    have HW5 := Lib.hid hw5
    clear hwin hw5
    go_wp2_with fail
    refine (implWinners_as _ _ _ xs _ n cl lots (s : Int) win _ P.out.piles HSM.out J.out HWIN.out).mono ?_
    rintro e w2 ⟨a1, c1, rfl, ho, hb⟩
    have P := Lib.hid (P.out.below hb)
    have J := Lib.hid (J.out.below hb)
    have I1 := Lib.hid (IsInts.of_owned ho (by have := HW5.out; omega))
    have B := Lib.hid (B.out.trans (hb.mono B.out.size))
    clear hb ho
    go_wp2_with fail
    refine (specWinners_as _ _ _ xs _ n cl lots (s : Int) win _ P.out.piles HSM.out J.out HWIN.out).mono ?_
    rintro e w3 ⟨a2, c2, rfl, ho, hb⟩
    have P := Lib.hid (P.out.below hb)
    have J := Lib.hid (J.out.below hb)
    have I1 := Lib.hid (I1.out.below hb)
    have I2 := Lib.hid (IsInts.of_owned ho (by have := HW5.out; omega))
    have B := Lib.hid (B.out.trans (hb.mono B.out.size))
    clear hb ho
    go_wp2_with fail
    refine (sameInts_eq _ _ _ win _ _ _ I1.out I2.out).mono ?_
    rintro e w4 ⟨rfl, hd⟩
    have hb := hd.below w3.heap.size
    have P := Lib.hid (P.out.below hb)
    have J := Lib.hid (J.out.below hb)
    have I1 := Lib.hid (I1.out.below hb)
    have I2 := Lib.hid (I2.out.below hb)
    have B := Lib.hid (B.out.trans (hb.mono B.out.size))
    clear hb hd
    by_cases hz : win.length = 0
    · skip
      have hz0 : ((win.length : Int) == 0) = true := by rw [hz]; rfl
      clear hz
      go_wp2_with fail
      refine (sameInts_eq _ _ _ win _ _ _ I1.out I2.out).mono ?_
      rintro e w5 ⟨rfl, hd⟩
      have hb := hd.below w4.heap.size
      have P := Lib.hid (P.out.below hb)
      have J := Lib.hid (J.out.below hb)
      have I1 := Lib.hid (I1.out.below hb)
      have I2 := Lib.hid (I2.out.below hb)
      have B := Lib.hid (B.out.trans (hb.mono B.out.size))
      clear hb hd
      go_wp2
      go_ret
      exact ⟨rfl, B.out⟩
    · skip
      have hz0 : ((win.length : Int) == 0) = false := beq_eq_false_iff_ne.2 (by omega)
      have hv := win_trans (by rw [HWIN.out]; exact hz)
      clear hz
      obtain ⟨hlo, hfi, hs12, hsn, hsum⟩ := (transB_iff _ _ _).1 hv
      have hS2 : s ≤ 2 := by omega
      have hSn : s ≤ lots.length := by omega
      obtain ⟨TT, hT⟩ : ∃ TT, sumL xs = TT := ⟨_, rfl⟩
      have HT : Hid (totalL xs = TT) := by unfold Hid totalL; rw [if_pos HPV.out]; exact hT
      obtain ⟨Q, hQ⟩ : ∃ Q, quoR TT (s : Int) = Q := ⟨_, rfl⟩
      have HQ := Lib.hid hQ
      have hqr := quoR_range (t := TT) (s := (s : Int)) ((quoB_iff _ _).2 ⟨⟨by rw [← hT]; exact sumL_low (pilesB_pos HPV.out).2.1, by rw [← hT]; exact hsum⟩, hs12⟩)
      have htop := quo_top (t := TT) (s := (s : Int)) ((quoB_iff _ _).2 ⟨⟨by rw [← hT]; exact sumL_low (pilesB_pos HPV.out).2.1, by rw [← hT]; exact hsum⟩, hs12⟩) hQ
      rw [hQ] at hqr
      have HSW : Hid (∀ x y : Nat, x < n → y < n → Q ≤ solM xs (x : Int) (y : Int) xs.length → (x : Int) ∈ win ∨ (y : Int) ∈ win) := fun x y hx hy hm => by
        have h1 := sol_wins (trans_arg hv) hS2 hSn (by rw [hT, hQ]; exact htop) (x := x) (y := y) (by rw [HN.out]; exact hx) (by rw [HN.out]; exact hy) (by omega) (by rw [hT, hQ]; exact hm)
        have e : tfWin (tfRun xs lots (quoR (sumL xs) (s : Int)) lots.length (tfStart xs lots.length s)) = win := by rw [← HWIN.out]; unfold tfWinners; rw [tfAll_yes hv, Int.toNat_natCast]
        rw [e] at h1; exact h1
      have HND : Hid (∀ i, i < xs.length → (parseL (tAt xs i)).Nodup) := fits_nodup hfi
      have HPF : Hid (∀ i, i < xs.length → (parseL (tAt xs i)).length ≤ 5) := fits_few hfi
      have HSB : Hid (∀ (x y : Int) (k : Nat), 0 ≤ solM xs x y k ∧ solM xs x y k ≤ 1000000 * (k : Int)) := fun x y k => sol_bound (mAt_wide (mAt_valid HPV.out)) x y k
      have HMB : Hid (∀ i, 0 ≤ mAt xs i ∧ mAt xs i ≤ 1000000) := mAt_wide (mAt_valid HPV.out)
      rw [HN.out] at hsn
      clear hT hQ hv hlo hfi htop hSn HWIN
      go_wp2_with fail
      refine (implTotal_as _ _ _ xs TT _ P.out.piles HSM.out HT.out).mono ?_
      rintro e w5 ⟨rfl, hb⟩
      have P := Lib.hid (P.out.below hb)
      have J := Lib.hid (J.out.below hb)
      have I1 := Lib.hid (I1.out.below hb)
      have I2 := Lib.hid (I2.out.below hb)
      have B := Lib.hid (B.out.trans (hb.mono B.out.size))
      clear hb
      go_wp2_with fail
      refine (implQuota_as TT (s : Int) Q _ HQ.out).mono ?_
      rintro e w9 ⟨rfl, rfl⟩
      clear I2 HPV HQ HT
      go_wp2
      go_loopw [9, 10, 11, 12, 13, 14] (fun iv _ _ _ _ _ wr => ∃ i : Nat, i ≤ n ∧ iv = .int .i64 (i : Int) ∧ Hid (Below w5.heap.size w5 wr)) (fun iv _ _ _ _ _ _ => n - (intOf iv).toNat)
      case atStart => exact ⟨0, Nat.zero_le _, rfl, Below.refl _ _⟩
      case round =>
        obtain ⟨i, hi, rfl, hB⟩ := hrel
        by_cases hlt : i < n
        · have hii : (i : Int) < (n : Int) := by omega
          go_wp2
          go_loopw [10, 11, 12, 13, 14] (fun jv _ _ _ _ wr => ∃ j : Nat, j ≤ i ∧ jv = .int .i64 (j : Int) ∧ Hid (Below w5.heap.size w5 wr)) (fun jv _ _ _ _ _ => i - (intOf jv).toNat)
          case atStart => exact ⟨0, Nat.zero_le _, rfl, hB.out⟩
          case round =>
            clear hB
            obtain ⟨j, hj, rfl, hB⟩ := hrel
            by_cases hjt : j < i
            · have hji : (j : Int) < (i : Int) := by omega
              go_wp2
              go_loopw [11, 12, 13, 14] (fun mv kv _ _ wr => ∃ k : Nat, k ≤ xs.length ∧ kv = .int .i64 (k : Int) ∧ mv = .int .i64 (solM xs (i : Int) (j : Int) k) ∧ Hid (Below w5.heap.size w5 wr)) (fun _ kv _ _ _ => xs.length - (intOf kv).toNat)
              case atStart => exact ⟨0, Nat.zero_le _, rfl, rfl, hB.out⟩
              case round =>
                clear hB
                obtain ⟨k, hk, rfl, rfl, hB⟩ := hrel
                rename World => wx
                obtain ⟨m, hm⟩ : ∃ m, solM xs (i : Int) (j : Int) k = m := ⟨_, rfl⟩
                have hmb := HSB.out (i : Int) (j : Int) k
                rw [hm] at hmb
                rw [hm]
                by_cases hkt : k < xs.length
                · have hki : (k : Int) < (xs.length : Int) := by omega
                  obtain ⟨b, off, hgo, hgl, c0, c1⟩ := (P.out.below hB.out).piles.piles hkt
                  injection hgo with hgo
                  injection hgo with e1 e2 _
                  subst e1
                  subst e2
                  rw [Nat.zero_add] at c0 c1
                  obtain ⟨t, ht⟩ : ∃ t, tAt xs k = t := ⟨_, rfl⟩
                  obtain ⟨many, hma⟩ : ∃ many, mAt xs k = many := ⟨_, rfl⟩
                  have hmm := HMB.out k
                  have hsz := HSM.out k
                  have hnd := HND.out k hkt
                  have hpf := HPF.out k hkt
                  have hst : solM xs (i : Int) (j : Int) (k + 1) = m + (if pairB (i : Int) (j : Int) (parseL t) = true then many else 0) := by rw [solM, hm, ht, hma]
                  rw [ht] at c0 hsz hnd hpf
                  rw [hma] at c1 hmm
                  obtain ⟨pl, hpl⟩ : ∃ pl, parseL t = pl := ⟨_, rfl⟩
                  rw [hpl] at hnd hpf hst
                  obtain ⟨ok, hok⟩ : ∃ ok, validB (nums t) 5 = ok := ⟨_, rfl⟩
                  have HP := Lib.hid hpl
                  have HK := Lib.hid hok
                  have HST := Lib.hid hst
                  have HND2 := Lib.hid hnd
                  have C1 := Lib.hid c1
                  have HM := Lib.hid hm
                  clear hpl hok hst hnd c1 hm ht hma
                  go_wp2_with fail
                  refine (implParse_as t pl ok _ hsz HP.out HK.out).mono ?_
                  rintro e w20 ⟨a5, c5, rfl, ho, hb⟩
                  have IP := IsInts.of_owned ho (by omega)
                  have B20 : Hid (Below w5.heap.size w5 w20) := hB.out.trans (hb.mono hB.out.size)
                  have C20 := Lib.hid ((hb.cell (p := ⟨g, k * 2 + 1, none⟩) hgl).trans C1.out)
                  have hgl2 := Nat.lt_of_lt_of_le hgl hb.size
                  clear ho hb c0 C1
                  by_cases h2 : 1 < pl.length
                  · have h2i : decide ((1 : Int) < (pl.length : Int)) = true := decide_eq_true (by omega)
                    have h2n : decide (1 < pl.length) = true := decide_eq_true h2
                    have hp0 : (0 : Int) < (pl.length : Int) := by omega
                    have hp1 : (1 : Int) < (pl.length : Int) := by omega
                    obtain ⟨pb, po, rfl, hpb, hpc⟩ := IP.2.2.2 (by omega)
                    obtain ⟨u, hu⟩ : ∃ u, pl[0]?.getD 0 = u := ⟨_, rfl⟩
                    obtain ⟨v, hv⟩ : ∃ v, pl[1]?.getD 0 = v := ⟨_, rfl⟩
                    have d0 := hpc 0 (by omega)
                    have d1 := hpc 1 h2
                    rw [hu, Nat.add_zero] at d0
                    rw [hv] at d1
                    have hpp := pair_two (x := (i : Int)) (y := (j : Int)) HND2.out h2
                    rw [hu, hv] at hpp
                    obtain ⟨v1, hv1⟩ : ∃ v1, hasB [(i : Int), (j : Int)] u = v1 := ⟨_, rfl⟩
                    obtain ⟨v2, hv2⟩ : ∃ v2, hasB [(i : Int), (j : Int)] v = v2 := ⟨_, rfl⟩
                    rw [hv1, hv2] at hpp
                    have HV1 := Lib.hid hv1
                    have HV2 := Lib.hid hv2
                    have HPP := Lib.hid hpp
                    have J1 := Lib.hid (two_ints (i : Int) (j : Int) w20)
                    have J2 := Lib.hid (two_ints2 (i : Int) (j : Int) w20)
                    obtain ⟨A1, hA1⟩ : ∃ A1, w20.alloc (.cells #[.int .i64 (i : Int), .int .i64 (j : Int)] 3) = A1 := ⟨_, rfl⟩
                    have b1 : Below w20.heap.size w20 (w20.alloc (.cells #[.int .i64 (i : Int), .int .i64 (j : Int)] 3)) := (Below.refl _ _).alloc (Nat.le_refl _) _
                    have b2 : Below w20.heap.size w20 ((w20.alloc (.cells #[.int .i64 (i : Int), .int .i64 (j : Int)] 3)).alloc (.cells #[.int .i64 (i : Int), .int .i64 (j : Int)] 3)) := b1.alloc (by simp) _
                    have q0 := (b1.cell (p := ⟨pb, po, none⟩) hpb).trans d0
                    have q1 := (b2.cell (p := ⟨pb, po + 1, none⟩) hpb).trans d1
                    have q2 := (b2.cell (p := ⟨g, k * 2 + 1, none⟩) hgl2).trans C20.out
                    have BA1 : Hid (Below w5.heap.size w5 (w20.alloc (.cells #[.int .i64 (i : Int), .int .i64 (j : Int)] 3))) := B20.out.trans (b1.mono B20.out.size)
                    have BA2 : Hid (Below w5.heap.size w5 ((w20.alloc (.cells #[.int .i64 (i : Int), .int .i64 (j : Int)] 3)).alloc (.cells #[.int .i64 (i : Int), .int .i64 (j : Int)] 3))) := B20.out.trans (b2.mono B20.out.size)
                    clear hpc d0 d1 hu hv hpp hv1 hv2 b1 b2 hA1 IP
                    go_wp2_with fail
                    refine (hasInt_as _ 2 2 [(i : Int), (j : Int)] u v1 _ J1.out HV1.out).mono ?_
                    rintro e w21 ⟨rfl, rfl⟩
                    cases v1
                    · have HS : Hid (m = solM xs (i : Int) (j : Int) (k + 1)) := by rw [Hid, HST.out, HPP.out]; simp
                      clear q1 q2
                      go_wp2
                      go_roundw
                      case rel => exact ⟨k + 1, by omega, by go_num, by rw [HS.out], BA1.out⟩
                      case measure => simp [intOf]; omega
                    · clear q0
                      go_wp2_with fail
                      refine (hasInt_as _ 2 2 [(i : Int), (j : Int)] v v2 _ J2.out HV2.out).mono ?_
                      rintro e w22 ⟨rfl, rfl⟩
                      cases v2
                      · have HS : Hid (m = solM xs (i : Int) (j : Int) (k + 1)) := by rw [Hid, HST.out, HPP.out]; simp
                        go_wp2
                        go_roundw
                        case rel => exact ⟨k + 1, by omega, by go_num, by rw [HS.out], BA2.out⟩
                        case measure => simp [intOf]; omega
                      · have HS : Hid (m + many = solM xs (i : Int) (j : Int) (k + 1)) := by rw [Hid, HST.out, HPP.out]; simp
                        have hw1 : IntKind.i64.wrap (m + many) = m + many := IntWalk.i64_in _ (by omega)
                        go_wp2
                        go_roundw
                        case rel => exact ⟨k + 1, by omega, by go_num, by rw [HS.out], BA2.out⟩
                        case measure => simp [intOf]; omega
                  · have h2i : decide ((1 : Int) < (pl.length : Int)) = false := decide_eq_false (by omega)
                    have h2n : decide (1 < pl.length) = false := decide_eq_false h2
                    have HS : Hid (m = solM xs (i : Int) (j : Int) (k + 1)) := by rw [Hid, HST.out, pair_short h2]; simp
                    clear h2 IP
                    go_wp2
                    go_roundw
                    case rel => exact ⟨k + 1, by omega, by go_num, by rw [HS.out], B20.out⟩
                    case measure => simp [intOf]; omega
                · obtain rfl : k = xs.length := by omega
                  have IW := Lib.hid (I1.out.below hB.out)
                  by_cases hq : Q ≤ m
                  · have hqd : decide (Q ≤ m) = true := decide_eq_true hq
                    have hsw := HSW.out i j hlt (by omega) (by rw [hm]; exact hq)
                    obtain ⟨v1, hv1⟩ : ∃ v1, hasB win (i : Int) = v1 := ⟨_, rfl⟩
                    have HV1 := Lib.hid hv1
                    have HV2 : Hid (v1 = false → hasB win (j : Int) = true) := fun e => by
                      subst e
                      rcases hsw with h | h
                      · unfold hasB at hv1; rw [List.contains_iff_mem.2 h] at hv1; cases hv1
                      · unfold hasB; exact List.contains_iff_mem.2 h
                    clear hsw hv1 hm hq
                    go_wp2_with fail
                    refine (hasInt_as _ _ _ win (i : Int) v1 _ IW.out HV1.out).mono ?_
                    rintro e w21 ⟨rfl, rfl⟩
                    cases v1
                    · go_wp2_with fail
                      refine (hasInt_as _ _ _ win (j : Int) true _ IW.out (by first | exact HV2.out rfl | exact HV2.out trivial)).mono ?_
                      rintro e w22 ⟨rfl, rfl⟩
                      go_wp2
                      go_roundw
                      case rel => exact ⟨j + 1, by omega, by go_num, hB.out⟩
                      case measure => simp [intOf]; omega
                    · go_wp2
                      go_roundw
                      case rel => exact ⟨j + 1, by omega, by go_num, hB.out⟩
                      case measure => simp [intOf]; omega
                  · have hqd : decide (Q ≤ m) = false := decide_eq_false hq
                    clear hq hm
                    go_wp2
                    go_roundw
                    case rel => exact ⟨j + 1, by omega, by go_num, hB.out⟩
                    case measure => simp [intOf]; omega
            · obtain rfl : j = i := by omega
              go_wp2
              go_roundw
              case rel => exact ⟨j + 1, by omega, by go_num, hB.out⟩
              case measure => simp [intOf]; omega
        · obtain rfl : i = n := by omega
          go_wp2
          go_ret
          exact ⟨rfl, B.out.trans (hB.out.mono B.out.size)⟩
  · clear w0
    go_enter Try.func8, Try.ntmps8
    go_wp2
    go_ret
    exact ⟨rfl, Below.refl _ _⟩

end Go.Proofs.Ytafnmongglhlaaa.fnTransferSolid
