/-
  laws.FnDepthWinner returns true for every code. No condition.
-/
import Derived.Test.YtojfpnjnbpeniaaGrp1
import Derived.Test.YtojfpnjnbpeniaaGrp17
import Derived.Test.YtojfpnjnbpeniaaDrawCt
import Derived.Test.YtojfpnjnbpeniaaGrp7
namespace Go.Proofs.Ytojfpnjnbpeniaa.fnDepthWinner
open Go.RowKit
set_option linter.unusedVariables false


set_option maxRecDepth 100000 in
set_option maxHeartbeats 2000000 in
/-- The law's walk: it returns true, and writes nothing that was there. -/
theorem walk (a0 : Option Addr) (len0 cap0 : Nat) (z0 : List Int) (w : World) (w0 : IsRow .u8 w a0 len0 cap0 z0) :
    Calls Try.prog 5 #[.slice a0 len0 cap0] w fun e w' => e = .returned (.bool true) ∧ Below w.heap.size w w' := by
  by_cases hl : len0 ≤ 1048576
  · skip
    have hcap := w0.cap
    have HB := Lib.hid w0.bytes; clear w0
    go_enter Try.func5, Try.ntmps5
    go_wp2_with fail
    refine (drawDepthW_any a0 len0 cap0 _ _ HB.out hcap (by omega)).mono ?_
    rintro e w1 ⟨xs, g, c, lots, al, cl, rfl, hp, hol, hl5, hb⟩
    have P := Lib.hid hp
    have B := Lib.hid hb
    have HSM := Lib.hid hp.2.1
    have hl13 := hp.2.2.2
    clear hb HB hp
    have J := Lib.hid (IsInts.of_owned hol (by omega))
    clear hol
    obtain ⟨r, d, hr⟩ : ∃ r d, depWin xs lots = (r, d) := ⟨_, _, rfl⟩
    have HR := Lib.hid hr
    clear hr
    have hrr : (r != r) = false := by simp
    have hdd : (d != d) = false := by simp
    have hre : (r == r) = true := by simp
    have hde : (d == d) = true := by simp
    go_wp2_with fail
    refine (implDepthW_as _ _ _ xs _ _ _ lots r d _ P.out.piles HSM.out J.out HR.out).mono ?_
    rintro e w2 ⟨rfl, hb⟩
    have P := Lib.hid (P.out.below hb)
    have J := Lib.hid (J.out.below hb)
    have B := Lib.hid (B.out.trans (hb.mono B.out.size))
    clear hb
    go_wp2_with fail
    refine (specDepthW_as _ _ _ xs _ _ _ lots r d _ P.out.piles HSM.out J.out HR.out).mono ?_
    rintro e w3 ⟨rfl, hb⟩
    have P := Lib.hid (P.out.below hb)
    have J := Lib.hid (J.out.below hb)
    have B := Lib.hid (B.out.trans (hb.mono B.out.size))
    clear hb
    by_cases hneg : r < 0
    · have hd : decide (r < 0) = true := decide_eq_true hneg
      go_wp2
      go_ret
      exact ⟨rfl, B.out⟩
    · skip
      have hd : decide (r < 0) = false := decide_eq_false hneg
      obtain ⟨hlo, hfit⟩ := con_parts (depWin_some HR.out (by omega))
      obtain ⟨hpv, -, -, -⟩ := fits_parts hfit
      have hp1 := (pilesB_pos hpv).2.1
      obtain ⟨k1, k2, k3, k4⟩ := dep_is (ps := xs) hlo hp1
      have hrd : depW xs lots = r ∧ (depAt xs lots.length : Int) = d := by
        have := HR.out
        rw [depWin, show conB xs lots = true by simp [conB, hlo, hfit], if_pos rfl] at this
        exact Prod.ext_iff.1 this
      obtain ⟨hr1, hd1⟩ := hrd
      have hrg := (vB_mem hlo).2.2 _ (dep_win (ps := xs) hlo hp1 (depAt xs lots.length)).1
      change 0 ≤ depW xs lots ∧ depW xs lots < (lots.length : Int) at hrg
      rw [hr1] at hrg k3
      obtain ⟨N, hN⟩ : ∃ N, lots.length = N := ⟨_, rfl⟩
      obtain ⟨D, hD⟩ : ∃ D, depAt xs lots.length = D := ⟨_, rfl⟩
      rw [hD] at k1 k2 k3 k4 hd1
      rw [hN] at k2 k3 k4 hrg hfit
      subst hd1
      obtain ⟨l1, hl1⟩ : ∃ l1, depL xs N D = l1 := ⟨_, rfl⟩
      obtain ⟨l2, hl2⟩ : ∃ l2, depL xs N (D - 1) = l2 := ⟨_, rfl⟩
      have hn1 : l1.length = N := by rw [← hl1]; exact depL_length _ _ _
      have hn2 : l2.length = N := by rw [← hl2]; exact depL_length _ _ _
      have hN5 : N ≤ 5 := by omega
      have HOK1 : Hid (depOk xs (N : Int) (D : Int) = true) := by rw [Hid, depOk_in (by omega) (by omega)]; exact hfit
      have HOK2 : Hid (depOk xs (N : Int) ((D : Int) - 1) = true) := by rw [Hid, depOk_in (by omega) (by omega)]; exact hfit
      have HR1 : Hid (depR xs (N : Int) (D : Int) = l1) := by rw [Hid, depR, if_pos HOK1.out, Int.toNat_natCast, Int.toNat_natCast]; exact hl1
      have HR2 : Hid (depR xs (N : Int) ((D : Int) - 1) = l2) := by rw [Hid, depR, if_pos HOK2.out, Int.toNat_natCast, show ((D : Int) - 1).toNat = D - 1 by omega]; exact hl2
      rw [hl1] at k3
      rw [hl2] at k4
      obtain ⟨m1, hm1⟩ : ∃ m1, topI l1 = m1 := ⟨_, rfl⟩
      obtain ⟨m2, hm2⟩ : ∃ m2, topI l2 = m2 := ⟨_, rfl⟩
      rw [hm1] at k3
      rw [hm2] at k4
      have HM1 := Lib.hid hm1
      have HM2 := Lib.hid hm2
      have hm2b : 0 ≤ m2 := by rw [← hm2]; exact (topI_spec l2).1
      have HT : Hid (totalL xs = sumL xs) := by rw [Hid, totalL, if_pos hpv]
      have hsb : 0 ≤ sumL xs ∧ sumL xs ≤ 13000000 := by have := sum_bound (ps := xs) (fun i => by have := mAt_valid hpv i; omega) xs.length (Nat.le_refl _); rw [List.take_length] at this; omega
      obtain ⟨T, hT⟩ : ∃ T, sumL xs = T := ⟨_, rfl⟩
      rw [hT] at k4 HT hsb
      obtain ⟨q, rfl⟩ := Int.eq_ofNat_of_zero_le hrg.1
      rw [Int.toNat_natCast] at k3
      have hle4 : decide (2 * m2 ≤ T) = true := decide_eq_true k4
      rw [hN]
      have hrgl : (q : Int) < (N : Int) := hrg.2
      have hge : decide ((N : Int) ≤ (q : Int)) = false := decide_eq_false (by omega)
      have hge2 : decide (N ≤ q) = false := decide_eq_false (by omega)
      have hmm : (m1 == m1) = true := by simp
      clear hlo hfit hpv hp1 hr1 hD hl1 hl2 hm1 hm2 hT hneg hrg
      clear J
      go_wp2_with fail
      refine (implDepth_as _ _ _ xs (N : Int) (D : Int) true l1 _ P.out.piles HSM.out HOK1.out HR1.out).mono ?_
      rintro e w4 ⟨a1, c1, rfl, ho, hb⟩
      have P := Lib.hid (P.out.below hb)
      have I1 := Lib.hid (IsInts.of_owned ho (by omega))
      have B := Lib.hid (B.out.trans (hb.mono B.out.size))
      clear hb ho
      go_wp2_with fail
      refine (implDepth_as _ _ _ xs (N : Int) ((D : Int) - 1) true l2 _ P.out.piles HSM.out HOK2.out HR2.out).mono ?_
      rintro e w5 ⟨a2, c2, rfl, ho, hb⟩
      have P := Lib.hid (P.out.below hb)
      have I1 := Lib.hid (I1.out.below hb)
      have I2 := Lib.hid (IsInts.of_owned ho (by omega))
      have B := Lib.hid (B.out.trans (hb.mono B.out.size))
      clear hb ho
      try rw [hn1] at I1
      try rw [hn2] at I2
      try rw [hn1]
      try rw [hn2]
      obtain ⟨b1, o1, rfl, hb1, hc1⟩ := I1.out.2.2.2 (by omega)
      have cq := hc1 q (by omega)
      rw [← k3] at cq
      clear hc1 k3
      have u0 : ∀ u : Beh w5, u.w.cell? ⟨b1, o1 + q, none⟩ = _ := Beh.cell cq hb1
      go_wp2_with fail
      refine wp_region_below (by kernel_rfl) (by kernel_rfl) ?_
      repeat (go_big_quiet_step (first | (go_at_call 20; exact Calls.beh (implTotal_as _ _ _ xs T _ (P.out.piles.below (Beh.below _)) HSM.out HT.out)) | (go_at_call 25; first | exact Calls.behSame (most_as _ _ _ l1 m1 _ (I1.out.below (Beh.below _)) HM1.out) | exact Calls.behSame (most_as _ _ _ l2 m2 _ (I2.out.below (Beh.below _)) HM2.out))))
      refine wpQuiet_nil ?_
      rintro _ ⟨⟨w9, hb9⟩, rfl⟩
      go_wp2
      go_ret
      exact ⟨rfl, B.out.trans (hb9.mono B.out.size)⟩
  · clear w0
    go_enter Try.func5, Try.ntmps5
    go_wp2
    go_ret
    exact ⟨rfl, Below.refl _ _⟩

end Go.Proofs.Ytojfpnjnbpeniaa.fnDepthWinner
