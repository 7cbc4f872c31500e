/-
  laws.FnPlurality returns true for every code. No condition.
-/
import Derived.Test.YtgkakgibgfehaaaLyP1
namespace Go.Proofs.Ytgkakgibgfehaaa.fnPlurality
open Go.RowKit
set_option linter.unusedVariables false


set_option maxRecDepth 100000 in
set_option maxHeartbeats 2000000 in
/-- The law's walk: it returns true, and writes nothing that was there. -/
theorem walk (a0 : Option Addr) (len0 cap0 : Nat) (z0 : List Int) (w : World) (w0 : IsRow .u8 w a0 len0 cap0 z0) :
    Calls Tq.prog 6 #[.slice a0 len0 cap0] w fun e w' => e = .returned (.bool true) ∧ Below w.heap.size w w' := by
  by_cases hl : len0 ≤ 1048576
  · skip
    have hcap := w0.cap
    have HB := Lib.hid w0.bytes; clear w0
    obtain ⟨i0, hi0, hz0, hz1, hz2⟩ := info_parts bool_infoP
    go_enter Tq.func6, Tq.ntmps6
    go_wp2_with fail
    refine (drawPlurW_any a0 len0 cap0 _ _ HB.out hcap (by omega)).mono ?_
    rintro e w1 ⟨xs, g, c, lots, al, cl, rfl, hp, hol, hl5, hb⟩
    have P := Lib.hid hp
    have B := Lib.hid hb
    have HSM := Lib.hid hp.2.1
    have hl13 := hp.2.2.2
    clear hb HB hp
    obtain ⟨N, hN⟩ : ∃ N, lots.length = N := ⟨_, rfl⟩
    have HNL := Lib.hid hN
    rw [hN] at hol hl5 ⊢
    have J := Lib.hid (IsInts.of_owned hol (by omega))
    clear hol hN
    obtain ⟨r, hr⟩ : ∃ r, plWin xs lots = r := ⟨_, rfl⟩
    have HR := Lib.hid hr
    clear hr
    have hrr : (r != r) = false := by simp
    have hre : (r == r) = true := by simp
    go_wp2_with fail
    refine (implPlur_as _ _ _ xs _ N _ lots r _ P.out.piles HSM.out J.out HR.out).mono ?_
    rintro e w2 ⟨rfl, hb⟩
    have P := Lib.hid (P.out.below hb)
    have J := Lib.hid (J.out.below hb)
    have B := Lib.hid (B.out.trans (hb.mono B.out.size))
    clear hb
    go_wp2_with fail
    refine (specPlur_as _ _ _ xs _ N _ lots r _ P.out.piles HSM.out J.out HR.out).mono ?_
    rintro e w3 ⟨rfl, hb⟩
    have P := Lib.hid (P.out.below hb)
    have J := Lib.hid (J.out.below hb)
    have B := Lib.hid (B.out.trans (hb.mono B.out.size))
    clear hb
    cases hk : plOk xs lots
    · skip
      have hr1 : r = -1 := by rw [← HR.out, plWin, if_neg (by rw [hk]; decide)]
      have hneg : decide (r < 0) = true := decide_eq_true (by omega)
      clear hr1 hk
      go_wp2
      go_ret
      exact ⟨rfl, B.out⟩
    · skip
      have hr1 : winL xs lots = r := by rw [← HR.out, plWin, if_pos hk]
      obtain ⟨hlo, hft⟩ := (plOk_iff _ _).1 hk
      have hwr := win_in hk
      have hp1 := (pilesB_pos (fits_parts hft).1).2.1
      have hwin := win_is (ps := xs) hlo hp1
      rw [HNL.out] at hft hwr hwin
      have hpl : (plurC xs N).length = N := plurC_length _ _
      have HF := Lib.hid hft
      have HLB : Hid (∀ i : Nat, 0 ≤ (plurC xs N)[i]?.getD 0 ∧ (plurC xs N)[i]?.getD 0 ≤ 5940) := fun i => plur_low HF.out i
      have HLM : Hid (∀ z ∈ lots, 0 ≤ z ∧ z < (N : Int)) := fun z hz => by have := lotsB_mem hlo z hz; rw [HNL.out] at this; exact this
      rw [hr1] at hwr hwin
      obtain ⟨zs, hzs⟩ : ∃ zs, plurC xs N = zs := ⟨_, rfl⟩
      rw [hzs] at hpl HLB hwin
      have HZ : Hid ((if true = true then countsL xs (noneL N) else []) = zs) := hzs
      have HWN : Hid (∀ i : Nat, i < N → ∃ k : Nat, k < N ∧ lots[i]?.getD 0 = (k : Int) ∧ (zs[k]?.getD 0 < zs[r.toNat]?.getD 0 ∨ (zs[k]?.getD 0 = zs[r.toNat]?.getD 0 ∧ befL lots (k : Int) r = false))) := fun i hi => by
        have hil : i < lots.length := by rw [HNL.out]; exact hi
        have hm : lots[i] ∈ lots := List.getElem_mem _
        have hb := HLM.out _ hm
        obtain ⟨k, hk⟩ := Int.eq_ofNat_of_zero_le hb.1
        refine ⟨k, by omega, by simp [hil, hk], ?_⟩
        have h3 := hwin.2.2 lots[i] hm (allL_at (by omega))
        rw [hk, Int.toNat_natCast] at h3
        rcases h3 with h3 | ⟨h3, h4⟩
        · exact .inl h3
        · right
          refine ⟨h3, ?_⟩
          rw [hk] at hm
          cases hbe : befL lots (k : Int) r
          · rfl
          · have := (befL_iff hm).1 hbe; omega
      obtain ⟨Q, rfl⟩ := Int.eq_ofNat_of_zero_le hwr.1
      rw [Int.toNat_natCast] at HWN
      have hQn : Q < N := by omega
      have hQi : (Q : Int) < (N : Int) := by omega
      have hneg : decide ((Q : Int) < 0) = false := decide_eq_false (by omega)
      have hge : decide ((N : Int) ≤ (Q : Int)) = false := decide_eq_false (by omega)
      have hge2 : decide (N ≤ Q) = false := decide_eq_false (by omega)
      have hnn : ((N : Int) != (N : Int)) = false := by simp
      clear hlo hft hp1 hwin hr1 hk hzs
      go_wp2_with (at_make; refine wpList_make_full _ rfl _ _ 24 rfl w3.heap.size 4 i0 (.bool false) 1 Tq.underlying24 hi0 hz0 hz1 .i64 .i64 _ _ N rfl rfl rfl rfl (by rw [hz2]; omega) (by unfold maxLen; omega) (Nat.le_refl _) ?_; intro w4 hown hgrow; have hb : Below w3.heap.size w3 w4 := (Below.refl _ w3).grown hgrow (Nat.le_refl _) (fun k e => by cases e); rw [nones_made] at hown; have JN := Lib.hid (nones_own hown (by omega) (Nat.le_refl _)); clear hown hgrow)
      have P := Lib.hid (P.out.below hb)
      have J := Lib.hid (J.out.below hb)
      have B := Lib.hid (B.out.trans (hb.mono B.out.size))
      clear hb
      refine (implCounts_to _ _ _ xs _ N N (noneL N) true zs _ P.out.piles HSM.out JN.out HF.out HZ.out).mono ?_
      rintro e w5 ⟨a1, c1, rfl, hi1, hb⟩
      rw [hpl] at hi1 ⊢
      have P := Lib.hid (P.out.below hb)
      have J := Lib.hid (J.out.below hb)
      have I1 := Lib.hid hi1
      have B := Lib.hid (B.out.trans (hb.mono B.out.size))
      clear hb hi1 JN
      obtain ⟨jb, jo, ej, hjb, hjc⟩ := J.out.2.2.2 (by omega)
      subst ej
      obtain ⟨cb, co, ec, hcb, hcc⟩ := I1.out.2.2.2 (by omega)
      subst ec
      have HJC := Lib.hid hjc
      have HCC := Lib.hid hcc
      clear hjc hcc
      go_wp2
      go_loopw [9, 10] (fun iv _ wr => ∃ i : Nat, i ≤ N ∧ iv = .int .i64 (i : Int) ∧ Below w5.heap.size w5 wr) (fun iv _ _ => N - (intOf iv).toNat)
      case atStart => exact ⟨0, Nat.zero_le _, rfl, Below.refl _ _⟩
      case round =>
        obtain ⟨i, hi, rfl, hd⟩ := hrel
        by_cases hlt : i < N
        · have hii : (i : Int) < (N : Int) := by omega
          obtain ⟨k, hkn, hke, hkc⟩ := HWN.out i hlt
          have cj := (hd.cell (p := ⟨jb, jo + i, none⟩) hjb).trans (HJC.out i hlt)
          have ck := (hd.cell (p := ⟨cb, co + k, none⟩) hcb).trans (HCC.out k hkn)
          have cq := (hd.cell (p := ⟨cb, co + Q, none⟩) hcb).trans (HCC.out Q hQn)
          have hki : (k : Int) < (N : Int) := by omega
          have hjl := Nat.lt_of_lt_of_le hjb hd.size
          have hcl := Nat.lt_of_lt_of_le hcb hd.size
          have JW := Lib.hid (J.out.below hd)
          rw [hke] at cj
          obtain ⟨y, hy⟩ : ∃ y, zs[k]?.getD 0 = y := ⟨_, rfl⟩
          obtain ⟨z, hz⟩ : ∃ z, zs[Q]?.getD 0 = z := ⟨_, rfl⟩
          rw [hy, hz] at hkc
          rw [hy] at ck
          rw [hz] at cq
          have u0 : ∀ u : Beh wr, u.w.cell? ⟨cb, co + k, none⟩ = _ := Beh.cell ck hcl
          have u1 : ∀ u : Beh wr, u.w.cell? ⟨cb, co + Q, none⟩ = _ := Beh.cell cq hcl
          have hgt : decide (z < y) = false := decide_eq_false (by omega)
          clear hy hz hke
          by_cases hyz : y = z
          · have heq : (y == z) = true := by simp [hyz]
            have HBF : Hid (befL lots (k : Int) (Q : Int) = false) := by rcases hkc with h | h; exact absurd h (by omega); exact h.2
            clear hkc hyz
            go_wp2_with fail
            refine wp_region_below (by kernel_rfl) (by kernel_rfl) ?_
            repeat (first | go_big_quiet_step ((go_at_call 23; exact Calls.behSame (before_as _ N _ lots (k : Int) (Q : Int) false _ (JW.out.below (Beh.below _)) HBF.out))) | go_big_quiet_skip)
            refine wpQuiet_nil ?_
            rintro w7 ⟨⟨w7, hb7⟩, rfl⟩
            have hd7 := hd.trans (hb7.mono hd.size)
            clear hb7 u0 u1
            go_wp2
            go_roundw
            case rel => exact ⟨i + 1, by omega, by go_num, hd7⟩
            case measure => simp [intOf]; omega
          · have heq : (y == z) = false := by simp [hyz]
            clear hkc hyz
            go_wp2_with fail
            refine wp_region_below (by kernel_rfl) (by kernel_rfl) ?_
            repeat (first | go_big_quiet_step (fail) | go_big_quiet_skip)
            refine wpQuiet_nil ?_
            rintro w7 ⟨⟨w7, hb7⟩, rfl⟩
            have hd7 := hd.trans (hb7.mono hd.size)
            clear hb7 u0 u1
            go_wp2
            go_roundw
            case rel => exact ⟨i + 1, by omega, by go_num, hd7⟩
            case measure => simp [intOf]; omega
        · obtain rfl : i = N := by omega
          go_wp2
          go_ret
          exact ⟨rfl, B.out.trans (hd.mono B.out.size)⟩
  · clear w0
    go_enter Tq.func6, Tq.ntmps6
    go_wp2
    go_ret
    exact ⟨rfl, Below.refl _ _⟩

end Go.Proofs.Ytgkakgibgfehaaa.fnPlurality
