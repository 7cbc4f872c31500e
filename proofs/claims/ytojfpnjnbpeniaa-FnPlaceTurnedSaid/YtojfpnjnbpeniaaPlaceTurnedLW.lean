/-
  laws.FnPlaceTurned returns true for every two codes. No condition.
-/
import Derived.Test.YtojfpnjnbpeniaaGrp1
import Derived.Test.YtojfpnjnbpeniaaGrp17
import Derived.Test.YtojfpnjnbpeniaaDrawCt
import Derived.Test.YtojfpnjnbpeniaaGrp21
import Derived.Test.YtojfpnjnbpeniaaGrp15
namespace Go.Proofs.Ytojfpnjnbpeniaa.fnPlaceTurned
open Go.RowKit
set_option linter.unusedVariables false


set_option maxRecDepth 100000 in
set_option maxHeartbeats 2000000 in
/-- The law's walk: it returns true, and writes nothing that was there. -/
theorem walk (a0 : Option Addr) (len0 cap0 : Nat) (z0 : List Int) (a1 : Option Addr) (len1 cap1 : Nat) (z1 : List Int) (w : World) (w0 : IsRow .u8 w a0 len0 cap0 z0) (w1 : IsRow .u8 w a1 len1 cap1 z1) :
    Calls Try.prog 9 #[.slice a0 len0 cap0, .slice a1 len1 cap1] w fun e w' => e = .returned (.bool true) ∧ Below w.heap.size w w' := by
  by_cases hl : len0 ≤ 1048576 ∧ len1 ≤ 1048576
  · obtain ⟨hl, hl1⟩ := hl
    have hl1i : decide ((1048576 : Int) < (len1 : Int)) = false := decide_eq_false (by omega)
    have hcap := w0.cap
    have HB := Lib.hid w0.bytes; clear w0 w1
    go_enter Try.func9, Try.ntmps9
    go_wp2_with fail
    refine (drawPlaceW_any a0 len0 cap0 _ _ HB.out hcap (by omega)).mono ?_
    rintro e w1 ⟨xs, g, c, lots, al, cl, rfl, hp, hol, hl5, hb⟩
    have P := Lib.hid hp
    have B := Lib.hid hb
    have HSM := Lib.hid hp.2.1
    have hl13 := hp.2.2.2
    clear hb HB hp
    have J := Lib.hid (IsInts.of_owned hol (by omega))
    clear hol
    obtain ⟨r, hr⟩ : ∃ r, plaWin xs lots = r := ⟨_, rfl⟩
    have HR := Lib.hid hr
    clear hr
    have hrr : (r != r) = false := by simp
    have hre : (r == r) = true := by simp
    go_wp2_with fail
    refine (implPlaceW_as _ _ _ xs _ _ _ lots r _ P.out.piles HSM.out J.out HR.out).mono ?_
    rintro e w2 ⟨rfl, hb⟩
    have P := Lib.hid (P.out.below hb)
    have J := Lib.hid (J.out.below hb)
    have B := Lib.hid (B.out.trans (hb.mono B.out.size))
    clear hb
    go_wp2_with fail
    refine (specPlaceW_as _ _ _ xs _ _ _ lots r _ P.out.piles HSM.out J.out HR.out).mono ?_
    rintro e w3 ⟨rfl, hb⟩
    have P := Lib.hid (P.out.below hb)
    have J := Lib.hid (J.out.below hb)
    have B := Lib.hid (B.out.trans (hb.mono B.out.size))
    clear hb
    by_cases hneg : r < 0
    · have hd : decide (r < 0) = true := decide_eq_true hneg
      go_wp2
      go_ret
      exact ⟨rfl, B.out⟩
    · skip
      have hd : decide (r < 0) = false := decide_eq_false hneg
      have hcon := plaWin_some HR.out (by omega)
      obtain ⟨hlo, hfit⟩ := con_parts hcon
      have HFB := Lib.hid (fits_both hfit)
      obtain ⟨hpv, -, -, -⟩ := fits_parts hfit
      have hp1 := (pilesB_pos hpv).2.1
      have HP := Lib.hid hpv
      have hr1 : plaW xs lots = r := by have := HR.out; rwa [plaWin, if_pos hcon] at this
      have hrg := (vB_mem hlo).2.2 _ (pla_win hlo hp1 HFB.out.2).1
      rw [hr1] at hrg
      obtain ⟨q, rfl⟩ := Int.eq_ofNat_of_zero_le hrg.1
      have hn := lotsB_len hlo
      obtain ⟨n, hN⟩ : ∃ N, lots.length = N := ⟨_, rfl⟩
      have hlenn := hN
      rw [hN] at hrg hn
      obtain ⟨x, hxn, hxe⟩ : ∃ x : Nat, x < n ∧ (len1 : Int) % (n : Int) = (x : Int) := ⟨len1 % n, Nat.mod_lt _ (by omega), by push_cast; rfl⟩
      obtain ⟨d, hde⟩ : ∃ d : Nat, (len1 : Int) / 7 = (d : Int) := ⟨len1 / 7, by push_cast; rfl⟩
      obtain ⟨y, hyn, hye⟩ : ∃ y : Nat, y < n ∧ (d : Int) % (n : Int) = (y : Int) := ⟨d % n, Nat.mod_lt _ (by omega), by push_cast; rfl⟩
      have hnz : ((n : Int) == 0) = false := beq_eq_false_iff_ne.2 (by omega)
      have hdn : (len1 : Int).tdiv 7 = (d : Int) := by rw [Int.tdiv_eq_ediv_of_nonneg (by omega)]; exact hde
      have hxt : (len1 : Int).tmod (n : Int) = (x : Int) := by rw [Int.tmod_eq_emod_of_nonneg (by omega)]; exact hxe
      have hyt : (d : Int).tmod (n : Int) = (y : Int) := by rw [Int.tmod_eq_emod_of_nonneg (by omega)]; exact hye
      have hdb : 0 ≤ (d : Int) ∧ (d : Int) ≤ 1048576 := by omega
      have hcan : canB xs (x : Int) (y : Int) = true := (canB_iff _ _ _).2 ⟨HP.out, ⟨by omega, by omega⟩, ⟨by omega, by omega⟩⟩
      obtain ⟨z, hq⟩ : ∃ z, canL xs (x : Int) (y : Int) = z := ⟨_, rfl⟩
      have hqe : z = turnPs (x : Int) (y : Int) xs := by rw [← hq, canL, hcan]; rfl
      have hrc := of_cases (canL_cases xs (x : Int) (y : Int))
      rw [hq] at hrc
      have hq12 := hrc.1
      have HSQ := Lib.hid hrc.2
      have HQ := Lib.hid hq
      have HC := Lib.hid hcan
      obtain ⟨tl', htl⟩ : ∃ tl', turnB (x : Int) (y : Int) lots = tl' := ⟨_, rfl⟩
      have HTL := Lib.hid htl
      obtain ⟨r2, hr2⟩ : ∃ r2, swapC (x : Int) (y : Int) (q : Int) = r2 := ⟨_, rfl⟩
      have HR2 := Lib.hid hr2
      have HWQ : Hid (plaWin z tl' = r2) := by
        rw [Hid, hqe, ← htl, ← hr2, ← hr1]
        exact plaWin_turn hlo (by rw [hN]; rw [hN] at hfit; exact hfit) (by rw [hN]; exact hxn) (by rw [hN]; exact hyn)
      have hltl : tl'.length = n := by rw [← htl, turnB, List.length_map, hN]
      rw [hN]
      rw [hN] at J
      clear hq hqe hrc hcan hcon hlo hfit hpv hp1 hr1 htl hr2 HFB
      go_wp2_with fail
      refine (implTurn_as _ _ _ xs (x : Int) (y : Int) z true _ P.out.piles HSM.out HQ.out HC.out).mono ?_
      rintro e w4 ⟨aq, cq, rfl, ho, hb, hn'⟩
      have P := Lib.hid (P.out.below hb)
      have J := Lib.hid (J.out.below hb)
      have IQ := Lib.hid (IsPiles.of_owned ho (by omega))
      have B := Lib.hid (B.out.trans (hb.mono B.out.size))
      clear hb ho hn' hnz hdn hxt hyt hxe hde hye
      go_wp2_with fail
      refine (turnedAll_as _ _ _ lots (x : Int) (y : Int) tl' _ J.out HTL.out).mono ?_
      rintro e w5 ⟨at', ct, rfl, ho, hb⟩
      have P := Lib.hid (P.out.below hb)
      have J := Lib.hid (J.out.below hb)
      have IQ := Lib.hid (IQ.out.below hb)
      have JT := Lib.hid (IsInts.of_owned ho (by omega))
      have B := Lib.hid (B.out.trans (hb.mono B.out.size))
      clear hb ho
      go_wp2_with fail
      refine (implPlaceW_as _ _ _ z _ _ _ tl' r2 _ IQ.out HSQ.out JT.out HWQ.out).mono ?_
      rintro e w6 ⟨rfl, hb⟩
      have P := Lib.hid (P.out.below hb)
      have J := Lib.hid (J.out.below hb)
      have IQ := Lib.hid (IQ.out.below hb)
      have JT := Lib.hid (JT.out.below hb)
      have B := Lib.hid (B.out.trans (hb.mono B.out.size))
      clear hb
      go_wp2_with fail
      refine (turned_any (q : Int) (x : Int) (y : Int) _).mono ?_
      rintro e w7 ⟨he, rfl⟩
      rw [HR2.out] at he
      subst he
      have hee : (r2 == r2) = true := by simp
      go_wp2
      go_ret
      exact ⟨rfl, B.out⟩
  · clear w0 w1
    go_enter Try.func9, Try.ntmps9
    go_wp2
    all_goals
      go_ret
      exact ⟨rfl, Below.refl _ _⟩

end Go.Proofs.Ytojfpnjnbpeniaa.fnPlaceTurned
