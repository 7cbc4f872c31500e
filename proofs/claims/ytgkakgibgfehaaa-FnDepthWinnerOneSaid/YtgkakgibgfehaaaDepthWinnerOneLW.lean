/-
  laws.FnDepthWinnerOne returns true for every code. No condition.
-/
import Derived.Test.YtgkakgibgfehaaaLyO1
namespace Go.Proofs.Ytgkakgibgfehaaa.fnDepthWinnerOne
open Go.RowKit
set_option linter.unusedVariables false

theorem depWin_some {ps : List Pl} {lots : List Int} {r d : Int} (h : depWin ps lots = (r, d)) (h0 : 0 ≤ r) : conB ps lots = true := by
  cases hc : conB ps lots
  · rw [depWin, hc] at h
    obtain ⟨e, _⟩ := Prod.ext_iff.1 h
    have e : (-1 : Int) = r := e
    omega
  · rfl
theorem con_parts {ps : List Pl} {lots : List Int} (h : conB ps lots = true) : lotsB lots = true ∧ fitsB ps (lots.length : Int) = true := by simpa [conB] using h
set_option maxRecDepth 100000 in
set_option maxHeartbeats 2000000 in
/-- The law's walk: it returns true, and writes nothing that was there. -/
theorem walk (a0 : Option Addr) (len0 cap0 : Nat) (z0 : List Int) (w : World) (w0 : IsRow .u8 w a0 len0 cap0 z0) :
    Calls Tq.prog 9 #[.slice a0 len0 cap0] w fun e w' => e = .returned (.bool true) ∧ Below w.heap.size w w' := by
  by_cases hl : len0 ≤ 1048576
  · skip
    have hcap := w0.cap
    have HB := Lib.hid w0.bytes; clear w0
    obtain ⟨i0, hi0, hz0, hz1, hz2⟩ := info_parts bool_infoP
    go_enter Tq.func9, Tq.ntmps9
    go_wp2_with fail
    refine (drawDepthW_any a0 len0 cap0 _ _ HB.out hcap (by omega)).mono ?_
    rintro e w1 ⟨xs, g, c, lots, al, cl, rfl, hp, hol, hl5, hb⟩
    have P := Lib.hid hp
    have B := Lib.hid hb
    have HSM := Lib.hid hp.2.1
    have hl13 := hp.2.2.2
    clear hb HB hp
    obtain ⟨N, hN⟩ : ∃ N, lots.length = N := ⟨_, rfl⟩
    have HNL := Lib.hid hN
    rw [hN] at hol hl5 ⊢
    have J := Lib.hid (IsInts.of_owned hol (by omega))
    clear hol hN
    obtain ⟨r, d, hr⟩ : ∃ r d, depWin xs lots = (r, d) := ⟨_, _, rfl⟩
    have HR := Lib.hid hr
    clear hr
    have hrr : (r != r) = false := by simp
    have hdd : (d != d) = false := by simp
    have hre : (r == r) = true := by simp
    have hde : (d == d) = true := by simp
    go_wp2_with fail
    refine (implDepthW_as _ _ _ xs _ N _ lots r d _ P.out.piles HSM.out J.out HR.out).mono ?_
    rintro e w2 ⟨rfl, hb⟩
    have P := Lib.hid (P.out.below hb)
    have J := Lib.hid (J.out.below hb)
    have B := Lib.hid (B.out.trans (hb.mono B.out.size))
    clear hb
    go_wp2_with fail
    refine (specDepthW_as _ _ _ xs _ N _ lots r d _ P.out.piles HSM.out J.out HR.out).mono ?_
    rintro e w3 ⟨rfl, hb⟩
    have P := Lib.hid (P.out.below hb)
    have J := Lib.hid (J.out.below hb)
    have B := Lib.hid (B.out.trans (hb.mono B.out.size))
    clear hb
    by_cases hneg : r < 0
    · have hd : decide (r < 0) = true := decide_eq_true hneg
      go_wp2
      go_ret
      exact ⟨rfl, B.out⟩
    · skip
      have hd : decide (r < 0) = false := decide_eq_false hneg
      obtain ⟨hlo, hfit⟩ := con_parts (depWin_some HR.out (by omega))
      have hk : plOk xs lots = true := (plOk_iff _ _).2 ⟨hlo, hfit⟩
      have hrd : depW xs lots = r ∧ (depAt xs lots.length : Int) = d := by
        have := HR.out
        rw [depWin, show conB xs lots = true by simp [conB, hlo, hfit], if_pos rfl] at this
        exact Prod.ext_iff.1 this
      obtain ⟨hpv, -, -, -⟩ := fits_parts hfit
      have hp1 := (pilesB_pos hpv).2.1
      have hone := dep_one (ps := xs) hlo hp1
      have hwr := win_in hk
      have HTOT : Hid (totalL xs = sumL xs) := by rw [Hid, totalL, if_pos hpv]
      rw [HNL.out] at hwr hone hrd hfit
      obtain ⟨hr1, hd1⟩ := hrd
      have HPW : Hid (plWin xs lots = winL xs lots) := by rw [Hid, plWin, if_pos hk]
      have HF := Lib.hid hfit
      have hpl : (plurC xs N).length = N := plurC_length _ _
      have HLB : Hid (∀ i : Nat, 0 ≤ (plurC xs N)[i]?.getD 0 ∧ (plurC xs N)[i]?.getD 0 ≤ 5940) := fun i => plur_low HF.out i
      obtain ⟨q, hq⟩ : ∃ q, winL xs lots = q := ⟨_, rfl⟩
      obtain ⟨zs, hzs⟩ : ∃ zs, plurC xs N = zs := ⟨_, rfl⟩
      obtain ⟨D, hD⟩ : ∃ D, depAt xs N = D := ⟨_, rfl⟩
      obtain ⟨T, hT⟩ : ∃ T, sumL xs = T := ⟨_, rfl⟩
      rw [hq] at hwr hone HPW
      rw [hzs] at hpl HLB hone
      rw [hD] at hone hd1
      rw [hT] at hone HTOT
      rw [hr1] at hone
      have HZ : Hid ((if true = true then countsL xs (noneL N) else []) = zs) := hzs
      obtain ⟨Q, rfl⟩ := Int.eq_ofNat_of_zero_le hwr.1
      rw [Int.toNat_natCast] at hone
      subst hd1
      have hQn : Q < N := by omega
      have hQi : (Q : Int) < (N : Int) := by omega
      have hneg2 : decide ((Q : Int) < 0) = false := decide_eq_false (by omega)
      have hge : decide ((N : Int) ≤ (Q : Int)) = false := decide_eq_false (by omega)
      have hge2 : decide (N ≤ Q) = false := decide_eq_false (by omega)
      have HON := Lib.hid hone
      clear hlo hfit hk hr1 hpv hp1 hq hzs hD hT hneg hone
      go_wp2_with fail
      refine (implPlur_as _ _ _ xs _ N _ lots (Q : Int) _ P.out.piles HSM.out J.out HPW.out).mono ?_
      rintro e w4 ⟨rfl, hb⟩
      have P := Lib.hid (P.out.below hb)
      have J := Lib.hid (J.out.below hb)
      have B := Lib.hid (B.out.trans (hb.mono B.out.size))
      clear hb
      go_wp2_with (at_make; refine wpList_make_full _ rfl _ _ 24 rfl w4.heap.size 4 i0 (.bool false) 1 Tq.underlying24 hi0 hz0 hz1 .i64 .i64 _ _ N rfl rfl rfl rfl (by rw [hz2]; omega) (by unfold maxLen; omega) (Nat.le_refl _) ?_; intro w5 hown hgrow; have hb : Below w4.heap.size w4 w5 := (Below.refl _ w4).grown hgrow (Nat.le_refl _) (fun k e => by cases e); rw [nones_made] at hown; have JN := Lib.hid (nones_own hown (by omega) (Nat.le_refl _)); clear hown hgrow)
      have P := Lib.hid (P.out.below hb)
      have J := Lib.hid (J.out.below hb)
      have B := Lib.hid (B.out.trans (hb.mono B.out.size))
      clear hb
      refine (implCounts_to _ _ _ xs _ N N (noneL N) true zs _ P.out.piles HSM.out JN.out HF.out HZ.out).mono ?_
      rintro e w6 ⟨a1, c1, rfl, hi1, hb⟩
      rw [hpl] at hi1 ⊢
      have P := Lib.hid (P.out.below hb)
      have J := Lib.hid (J.out.below hb)
      have I1 := Lib.hid hi1
      have B := Lib.hid (B.out.trans (hb.mono B.out.size))
      clear hb hi1 JN
      obtain ⟨cb, co, ec, hcb, hcc⟩ := I1.out.2.2.2 (by omega)
      subst ec
      have cq := hcc Q hQn
      have hzb := HLB.out Q
      have hon := HON.out
      obtain ⟨z, hz⟩ : ∃ z, zs[Q]?.getD 0 = z := ⟨_, rfl⟩
      rw [hz] at cq hzb hon
      have u0 : ∀ u : Beh w6, u.w.cell? ⟨cb, co + Q, none⟩ = _ := Beh.cell cq hcb
      have hwz : IntKind.i64.wrap (2 * z) = 2 * z := IntWalk.i64_in _ (by omega)
      clear hcc hz
      by_cases h1 : D = 1
      · have e1 : ((D : Int) != 1) = false := by simp [h1]
        have e2 : ((D : Int) == 1) = true := by simp [h1]
        have e3 : (r == (Q : Int)) = true := by simp [hon.1 h1]
        by_cases h2 : 2 * z ≤ T
        · have e4 : decide (2 * z ≤ T) = true := decide_eq_true h2
          clear hon h1 h2
          go_wp2_with fail
          refine wp_region_below (by kernel_rfl) (by kernel_rfl) ?_
          repeat (first | go_big_quiet_step ((go_at_call 19; exact Calls.beh (implTotal_as _ _ _ xs T _ (P.out.piles.below (Beh.below _)) HSM.out HTOT.out))) | go_big_quiet_skip)
          refine wpQuiet_nil ?_
          rintro _ ⟨⟨w9, hb9⟩, rfl⟩
          go_wp2
          go_ret
          exact ⟨rfl, B.out.trans (hb9.mono B.out.size)⟩
        · have e4 : decide (2 * z ≤ T) = false := decide_eq_false h2
          clear hon h1 h2
          go_wp2_with fail
          refine wp_region_below (by kernel_rfl) (by kernel_rfl) ?_
          repeat (first | go_big_quiet_step ((go_at_call 19; exact Calls.beh (implTotal_as _ _ _ xs T _ (P.out.piles.below (Beh.below _)) HSM.out HTOT.out))) | go_big_quiet_skip)
          refine wpQuiet_nil ?_
          rintro _ ⟨⟨w9, hb9⟩, rfl⟩
          go_wp2
          go_ret
          exact ⟨rfl, B.out.trans (hb9.mono B.out.size)⟩
      · have e1 : ((D : Int) != 1) = true := by simp; omega
        have e4 : decide (2 * z ≤ T) = true := decide_eq_true (by
          rcases Int.lt_or_le T (2 * z) with h | h
          · exact absurd (hon.2 h) h1
          · exact h)
        clear hon h1
        go_wp2_with fail
        refine wp_region_below (by kernel_rfl) (by kernel_rfl) ?_
        repeat (first | go_big_quiet_step ((go_at_call 19; exact Calls.beh (implTotal_as _ _ _ xs T _ (P.out.piles.below (Beh.below _)) HSM.out HTOT.out))) | go_big_quiet_skip)
        refine wpQuiet_nil ?_
        rintro _ ⟨⟨w9, hb9⟩, rfl⟩
        go_wp2
        go_ret
        exact ⟨rfl, B.out.trans (hb9.mono B.out.size)⟩
  · clear w0
    go_enter Tq.func9, Tq.ntmps9
    go_wp2
    go_ret
    exact ⟨rfl, Below.refl _ _⟩

end Go.Proofs.Ytgkakgibgfehaaa.fnDepthWinnerOne
