/-
  laws.FnTransferTurned returns true for every two codes. No condition.
-/
import Derived.Test.YtafnmongglhlaaaGreatGrp1
import Derived.Test.YtafnmongglhlaaaGreatGrp21
import Derived.Test.YtafnmongglhlaaaGreatGrpY
import Derived.Test.YtafnmongglhlaaaGreatGrpW
import Derived.Test.YtafnmongglhlaaaGreatGrpB
namespace Go.Proofs.YtafnmongglhlaaaGreat.fnTransferTurned
open Go.RowKit
set_option linter.unusedVariables false


set_option maxRecDepth 100000 in
set_option maxHeartbeats 2000000 in
/-- The law's walk: it returns true, and writes nothing that was there. -/
theorem walk (a0 : Option Addr) (len0 cap0 : Nat) (z0 : List Int) (a1 : Option Addr) (len1 cap1 : Nat) (z1 : List Int) (w : World) (w0 : IsRow .u8 w a0 len0 cap0 z0) (w1 : IsRow .u8 w a1 len1 cap1 z1) :
    Calls Tryz.prog 3 #[.slice a0 len0 cap0, .slice a1 len1 cap1] w fun e w' => e = .returned (.bool true) ∧ Below w.heap.size w w' := by
  by_cases hl : len0 ≤ 1048576 ∧ len1 ≤ 1048576
  · obtain ⟨hl, hl1⟩ := hl
    have hl1i : decide ((1048576 : Int) < (len1 : Int)) = false := decide_eq_false (by omega)
    have hcap := w0.cap
    have HB := Lib.hid w0.bytes; clear w0 w1
    go_enter Tryz.func3, Tryz.ntmps3
    go_wp2_with fail
    refine (drawTfWins_any a0 len0 cap0 _ _ HB.out hcap (by omega)).mono ?_
    rintro e w1 ⟨xs, g, c, lots, al, cl, s, rfl, hp, hpv, hol, hl5, hs4, hb⟩
    have B := Lib.hid hb
    have P := Lib.hid hp
    have HSM := Lib.hid hp.2.1
    have HPV := Lib.hid hpv
    obtain ⟨n, hn⟩ : ∃ n, lots.length = n := ⟨_, rfl⟩
    rw [hn] at hol hl5 ⊢
    have J := Lib.hid (IsInts.of_owned hol (by omega))
    have HN := Lib.hid hn
    have hx12 := (pilesB_pos hpv).2.2.2.2
    clear hb HB hp hol hn hpv
    obtain ⟨win, hwin⟩ : ∃ win, tfWinners xs lots (s : Int) = win := ⟨_, rfl⟩
    have HWIN := Lib.hid hwin
    have hw5 : win.length ≤ 5 := by rw [← hwin]; exact tfWinners_short _ _ _
    have HW5 := Lib.hid hw5
    clear hwin hw5
    go_wp2_with fail
    refine (implWinners_as _ _ _ xs _ n cl lots (s : Int) win _ P.out.piles HSM.out J.out HWIN.out).mono ?_
    rintro e w2 ⟨a1, c1, rfl, ho, hb⟩
    have P := Lib.hid (P.out.below hb)
    have J := Lib.hid (J.out.below hb)
    have I1 := Lib.hid (IsInts.of_owned ho (by have := HW5.out; omega))
    have B := Lib.hid (B.out.trans (hb.mono B.out.size))
    clear hb ho
    go_wp2_with fail
    refine (specWinners_as _ _ _ xs _ n cl lots (s : Int) win _ P.out.piles HSM.out J.out HWIN.out).mono ?_
    rintro e w3 ⟨a2, c2, rfl, ho, hb⟩
    have P := Lib.hid (P.out.below hb)
    have J := Lib.hid (J.out.below hb)
    have I1 := Lib.hid (I1.out.below hb)
    have I2 := Lib.hid (IsInts.of_owned ho (by have := HW5.out; omega))
    have B := Lib.hid (B.out.trans (hb.mono B.out.size))
    clear hb ho
    go_wp2_with fail
    refine (sameInts_eq _ _ _ win _ _ _ I1.out I2.out).mono ?_
    rintro e w4 ⟨rfl, hd⟩
    have hb := hd.below w3.heap.size
    have P := Lib.hid (P.out.below hb)
    have J := Lib.hid (J.out.below hb)
    have I1 := Lib.hid (I1.out.below hb)
    have I2 := Lib.hid (I2.out.below hb)
    have B := Lib.hid (B.out.trans (hb.mono B.out.size))
    clear hb hd
    by_cases hz : win.length = 0
    · skip
      have hz0 : ((win.length : Int) == 0) = true := by rw [hz]; rfl
      clear hz
      go_wp2_with fail
      refine (sameInts_eq _ _ _ win _ _ _ I1.out I2.out).mono ?_
      rintro e w5 ⟨rfl, hd⟩
      have hb := hd.below w4.heap.size
      have P := Lib.hid (P.out.below hb)
      have J := Lib.hid (J.out.below hb)
      have I1 := Lib.hid (I1.out.below hb)
      have I2 := Lib.hid (I2.out.below hb)
      have B := Lib.hid (B.out.trans (hb.mono B.out.size))
      clear hb hd
      go_wp2
      go_ret
      exact ⟨rfl, B.out⟩
    · skip
      have hz0 : ((win.length : Int) == 0) = false := beq_eq_false_iff_ne.2 (by omega)
      have hv := win_trans (by rw [HWIN.out]; exact hz)
      clear hz
      have hn1 : 1 ≤ n := by have := lotsB_len ((transB_iff _ _ _).1 hv).1; have := HN.out; omega
      obtain ⟨x, hxn, hxe⟩ : ∃ x : Nat, x < n ∧ (len1 : Int) % (n : Int) = (x : Int) := ⟨len1 % n, Nat.mod_lt _ (by omega), by push_cast; rfl⟩
      obtain ⟨d, hde⟩ : ∃ d : Nat, (len1 : Int) / 7 = (d : Int) := ⟨len1 / 7, by push_cast; rfl⟩
      obtain ⟨y, hyn, hye⟩ : ∃ y : Nat, y < n ∧ (d : Int) % (n : Int) = (y : Int) := ⟨d % n, Nat.mod_lt _ (by omega), by push_cast; rfl⟩
      have hnz : ((n : Int) == 0) = false := beq_eq_false_iff_ne.2 (by omega)
      have hdn : (len1 : Int).tdiv 7 = (d : Int) := by rw [Int.tdiv_eq_ediv_of_nonneg (by omega)]; exact hde
      have hxt : (len1 : Int).tmod (n : Int) = (x : Int) := by rw [Int.tmod_eq_emod_of_nonneg (by omega)]; exact hxe
      have hyt : (d : Int).tmod (n : Int) = (y : Int) := by rw [Int.tmod_eq_emod_of_nonneg (by omega)]; exact hye
      have hdb : 0 ≤ (d : Int) ∧ (d : Int) ≤ 1048576 := by omega
      have hcan : canB xs (x : Int) (y : Int) = true := (canB_iff _ _ _).2 ⟨HPV.out, ⟨by omega, by omega⟩, ⟨by omega, by omega⟩⟩
      obtain ⟨z, hq⟩ : ∃ z, canL xs (x : Int) (y : Int) = z := ⟨_, rfl⟩
      have hqe : z = turnPs (x : Int) (y : Int) xs := by rw [← hq, canL, hcan]; rfl
      have hrc := of_cases (canL_cases xs (x : Int) (y : Int))
      rw [hq] at hrc
      have hq12 := hrc.1
      have HSQ := Lib.hid hrc.2
      have HQ := Lib.hid hq
      have HC := Lib.hid hcan
      obtain ⟨tl', htl⟩ : ∃ tl', turnB (x : Int) (y : Int) lots = tl' := ⟨_, rfl⟩
      have HTL := Lib.hid htl
      obtain ⟨tw, htw⟩ : ∃ tw, turnB (x : Int) (y : Int) win = tw := ⟨_, rfl⟩
      have HTW := Lib.hid htw
      have HWQ : Hid (tfWinners z tl' (s : Int) = tw) := by
        rw [Hid, hqe, ← htl, ← htw, ← HWIN.out]
        exact wins_turned hv (by rw [HN.out]; exact hxn) (by rw [HN.out]; exact hyn)
      have hltl : tl'.length = n := by rw [← htl, turnB, List.length_map, HN.out]
      have hltw : tw.length = win.length := by rw [← htw, turnB, List.length_map]
      have HLTW := Lib.hid hltw
      clear hq hqe hrc hcan htl htw hv HWIN hltw I2
      go_wp2_with fail
      refine (implTurn_as _ _ _ xs (x : Int) (y : Int) z true _ P.out.piles HSM.out HQ.out HC.out).mono ?_
      rintro e w5 ⟨aq, cq, rfl, ho, hb, hn'⟩
      have P := Lib.hid (P.out.below hb)
      have J := Lib.hid (J.out.below hb)
      have I1 := Lib.hid (I1.out.below hb)
      have IQ := Lib.hid (IsPiles.of_owned ho (by omega))
      have B := Lib.hid (B.out.trans (hb.mono B.out.size))
      clear hb ho hn' hnz hdn hxt hyt hxe hde hye
      go_wp2_with fail
      refine (turnedAll_as _ _ _ lots (x : Int) (y : Int) tl' _ J.out HTL.out).mono ?_
      rintro e w6 ⟨at', ct, rfl, ho, hb⟩
      have P := Lib.hid (P.out.below hb)
      have J := Lib.hid (J.out.below hb)
      have I1 := Lib.hid (I1.out.below hb)
      have IQ := Lib.hid (IQ.out.below hb)
      have JT := Lib.hid (IsInts.of_owned ho (by omega))
      have B := Lib.hid (B.out.trans (hb.mono B.out.size))
      clear hb ho
      go_wp2_with fail
      refine (implWinners_as _ _ _ z _ n _ tl' (s : Int) tw _ IQ.out HSQ.out JT.out HWQ.out).mono ?_
      rintro e w7 ⟨a3, c3, rfl, ho, hb⟩
      have P := Lib.hid (P.out.below hb)
      have J := Lib.hid (J.out.below hb)
      have I1 := Lib.hid (I1.out.below hb)
      have IQ := Lib.hid (IQ.out.below hb)
      have JT := Lib.hid (JT.out.below hb)
      have I3 := Lib.hid (IsInts.of_owned ho (by have := HLTW.out; have := HW5.out; omega))
      have B := Lib.hid (B.out.trans (hb.mono B.out.size))
      clear hb ho
      go_wp2_with fail
      refine (turnedAll_as _ _ _ win (x : Int) (y : Int) tw _ I1.out HTW.out).mono ?_
      rintro e w8 ⟨a4, c4, rfl, ho, hb⟩
      have P := Lib.hid (P.out.below hb)
      have J := Lib.hid (J.out.below hb)
      have I1 := Lib.hid (I1.out.below hb)
      have IQ := Lib.hid (IQ.out.below hb)
      have JT := Lib.hid (JT.out.below hb)
      have I3 := Lib.hid (I3.out.below hb)
      have I4 := Lib.hid (IsInts.of_owned (HLTW.out.symm ▸ ho) (by have := HLTW.out; have := HW5.out; omega))
      have B := Lib.hid (B.out.trans (hb.mono B.out.size))
      clear hb ho
      rw [← HLTW.out]
      go_wp2_with fail
      refine (sameInts_eq _ _ _ tw _ _ _ I3.out I4.out).mono ?_
      rintro e w9 ⟨rfl, hd⟩
      have hb := hd.below w8.heap.size
      have B := Lib.hid (B.out.trans (hb.mono B.out.size))
      clear hb hd
      go_wp2
      go_ret
      exact ⟨rfl, B.out⟩
  · clear w0 w1
    go_enter Tryz.func3, Tryz.ntmps3
    go_wp2
    all_goals
      go_ret
      exact ⟨rfl, Below.refl _ _⟩

end Go.Proofs.YtafnmongglhlaaaGreat.fnTransferTurned
