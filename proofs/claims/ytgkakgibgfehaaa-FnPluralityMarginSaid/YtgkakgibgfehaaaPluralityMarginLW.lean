/-
  laws.FnPluralityMargin returns true for every code. No condition.
-/
import Derived.Test.YtgkakgibgfehaaaLyM1
namespace Go.Proofs.Ytgkakgibgfehaaa.fnPluralityMargin
open Go.RowKit
set_option linter.unusedVariables false

/-- What FnPluralityMargin finds behind k rounds. -/
def someTo (zs : List Int) (Q : Nat) (m z : Int) (f0 : Bool) (k : Nat) : Bool := f0 || (List.range k).any fun i => decide (i ≠ Q) && decide (z - zs[i]?.getD 0 = m)
theorem someTo_succ (zs : List Int) (Q : Nat) (m z : Int) (f0 : Bool) (k : Nat) : someTo zs Q m z f0 (k + 1) = (someTo zs Q m z f0 k || (decide (k ≠ Q) && decide (z - zs[k]?.getD 0 = m))) := by
  simp [someTo, List.range_succ, Bool.or_assoc]
theorem someTo_iff {zs : List Int} {Q : Nat} {m z : Int} {f0 : Bool} {k : Nat} : someTo zs Q m z f0 k = true ↔ f0 = true ∨ ∃ i, i < k ∧ i ≠ Q ∧ z - zs[i]?.getD 0 = m := by
  simp [someTo]
set_option maxRecDepth 100000 in
set_option maxHeartbeats 2000000 in
/-- The law's walk: it returns true, and writes nothing that was there. -/
theorem walk (a0 : Option Addr) (len0 cap0 : Nat) (z0 : List Int) (w : World) (w0 : IsRow .u8 w a0 len0 cap0 z0) :
    Calls Tq.prog 7 #[.slice a0 len0 cap0] w fun e w' => e = .returned (.bool true) ∧ Below w.heap.size w w' := by
  by_cases hl : len0 ≤ 1048576
  · skip
    have hcap := w0.cap
    have HB := Lib.hid w0.bytes; clear w0
    obtain ⟨i0, hi0, hz0, hz1, hz2⟩ := info_parts bool_infoP
    go_enter Tq.func7, Tq.ntmps7
    go_wp2_with fail
    refine (drawPlurM_any a0 len0 cap0 _ _ HB.out hcap (by omega)).mono ?_
    rintro e w1 ⟨xs, g, c, lots, al, cl, rfl, hp, hol, hl5, hb⟩
    have P := Lib.hid hp
    have B := Lib.hid hb
    have HSM := Lib.hid hp.2.1
    have hl13 := hp.2.2.2
    clear hb HB hp
    obtain ⟨N, hN⟩ : ∃ N, lots.length = N := ⟨_, rfl⟩
    have HNL := Lib.hid hN
    rw [hN] at hol hl5 ⊢
    have J := Lib.hid (IsInts.of_owned hol (by omega))
    clear hol hN
    obtain ⟨m, hm⟩ : ∃ m, plMar xs lots = m := ⟨_, rfl⟩
    have HM := Lib.hid hm
    clear hm
    have hrr : (m != m) = false := by simp
    have hre : (m == m) = true := by simp
    go_wp2_with fail
    refine (implMar_as _ _ _ xs _ N _ lots m _ P.out.piles HSM.out J.out HM.out).mono ?_
    rintro e w2 ⟨rfl, hb⟩
    have P := Lib.hid (P.out.below hb)
    have J := Lib.hid (J.out.below hb)
    have B := Lib.hid (B.out.trans (hb.mono B.out.size))
    clear hb
    go_wp2_with fail
    refine (specMar_as _ _ _ xs _ N _ lots m _ P.out.piles HSM.out J.out HM.out).mono ?_
    rintro e w3 ⟨rfl, hb⟩
    have P := Lib.hid (P.out.below hb)
    have J := Lib.hid (J.out.below hb)
    have B := Lib.hid (B.out.trans (hb.mono B.out.size))
    clear hb
    cases hk : plOk xs lots
    · skip
      have hr1 : m = -1 := by rw [← HM.out, plMar, if_neg (by rw [hk]; decide)]
      have hneg : decide (m < 0) = true := decide_eq_true (by omega)
      clear hr1 hk
      go_wp2
      go_ret
      exact ⟨rfl, B.out⟩
    · skip
      have hm1 : marginL xs lots = m := by rw [← HM.out, plMar, if_pos hk]
      obtain ⟨hlo, hft⟩ := (plOk_iff _ _).1 hk
      have hwr := win_in hk
      have hp1 := (pilesB_pos (fits_parts hft).1).2.1
      have hwin := win_is (ps := xs) hlo hp1
      rw [HNL.out] at hft hwr hwin
      have hpl : (plurC xs N).length = N := plurC_length _ _
      have HF := Lib.hid hft
      have HLB : Hid (∀ i : Nat, 0 ≤ (plurC xs N)[i]?.getD 0 ∧ (plurC xs N)[i]?.getD 0 ≤ 5940) := fun i => plur_low HF.out i
      have HLM : Hid (∀ z ∈ lots, 0 ≤ z ∧ z < (N : Int)) := fun z hz => by have := lotsB_mem hlo z hz; rw [HNL.out] at this; exact this
      have hmi := margin_is (ps := xs) hlo hp1
      rw [hm1, HNL.out] at hmi
      have HR : Hid (plWin xs lots = winL xs lots) := by rw [Hid, plWin, if_pos hk]
      obtain ⟨r, hr⟩ : ∃ r, winL xs lots = r := ⟨_, rfl⟩
      rw [hr] at hwr hmi HR
      obtain ⟨zs, hzs⟩ : ∃ zs, plurC xs N = zs := ⟨_, rfl⟩
      rw [hzs] at hpl HLB hmi
      have HZ : Hid ((if true = true then countsL xs (noneL N) else []) = zs) := hzs
      obtain ⟨Q, rfl⟩ := Int.eq_ofNat_of_zero_le hwr.1
      rw [Int.toNat_natCast] at hmi
      have hQn : Q < N := by omega
      have hQi : (Q : Int) < (N : Int) := by omega
      have hneg : decide (m < 0) = false := decide_eq_false (by omega)
      have hneg2 : decide ((Q : Int) < 0) = false := decide_eq_false (by omega)
      have hge : decide ((N : Int) ≤ (Q : Int)) = false := decide_eq_false (by omega)
      have hge2 : decide (N ≤ Q) = false := decide_eq_false (by omega)
      have HM1 : Hid (∀ i : Nat, i < N → i ≠ Q → m ≤ zs[Q]?.getD 0 - zs[i]?.getD 0) := fun i hi hq => hmi.2.1 i hi (by omega)
      have HM2 : Hid ((N = 1 ∧ m = zs[Q]?.getD 0) ∨ ∃ i : Nat, i < N ∧ i ≠ Q ∧ zs[Q]?.getD 0 - zs[i]?.getD 0 = m) := by
        rcases hmi.2.2 with h | ⟨i, h1, h2, h3⟩
        · exact .inl h
        · exact .inr ⟨i, h1, by omega, h3⟩
      clear hlo hft hp1 hwin hm1 hk hzs hmi hr
      go_wp2_with (at_make; refine wpList_make_full _ rfl _ _ 24 rfl w3.heap.size 4 i0 (.bool false) 1 Tq.underlying24 hi0 hz0 hz1 .i64 .i64 _ _ N rfl rfl rfl rfl (by rw [hz2]; omega) (by unfold maxLen; omega) (Nat.le_refl _) ?_; intro w4 hown hgrow; have hb : Below w3.heap.size w3 w4 := (Below.refl _ w3).grown hgrow (Nat.le_refl _) (fun k e => by cases e); rw [nones_made] at hown; have JN := Lib.hid (nones_own hown (by omega) (Nat.le_refl _)); clear hown hgrow)
      have P := Lib.hid (P.out.below hb)
      have J := Lib.hid (J.out.below hb)
      have B := Lib.hid (B.out.trans (hb.mono B.out.size))
      clear hb
      refine (implCounts_to _ _ _ xs _ N N (noneL N) true zs _ P.out.piles HSM.out JN.out HF.out HZ.out).mono ?_
      rintro e w5 ⟨a1, c1, rfl, hi1, hb⟩
      rw [hpl] at hi1 ⊢
      have P := Lib.hid (P.out.below hb)
      have J := Lib.hid (J.out.below hb)
      have I1 := Lib.hid hi1
      have B := Lib.hid (B.out.trans (hb.mono B.out.size))
      clear hb hi1 JN
      go_wp2_with fail
      refine (implPlur_as _ _ _ xs _ N _ lots (Q : Int) _ P.out.piles HSM.out J.out HR.out).mono ?_
      rintro e w6 ⟨rfl, hb⟩
      have P := Lib.hid (P.out.below hb)
      have J := Lib.hid (J.out.below hb)
      have I1 := Lib.hid (I1.out.below hb)
      have B := Lib.hid (B.out.trans (hb.mono B.out.size))
      clear hb
      obtain ⟨cb, co, ec, hcb, hcc⟩ := I1.out.2.2.2 (by omega)
      subst ec
      have HCC := Lib.hid hcc
      clear hcc
      obtain ⟨z, hz⟩ : ∃ z, zs[Q]?.getD 0 = z := ⟨_, rfl⟩
      have HZQ := Lib.hid hz
      have hzb := HLB.out Q
      have cq0 := HCC.out Q hQn
      rw [hz] at cq0 hzb HM1 HM2
      have cq0 := cq0
      clear hz
      obtain ⟨f0, hf0⟩ : ∃ f0, (decide (N = 1) && decide (m = z)) = f0 := ⟨_, rfl⟩
      have HF0 := Lib.hid hf0
      clear hf0
      have SM : Hid (∀ k : Nat, someTo zs Q m z f0 (k + 1) = (someTo zs Q m z f0 k || (decide (k ≠ Q) && decide (z - zs[k]?.getD 0 = m)))) := fun k => someTo_succ zs Q m z f0 k
      have HST : Hid (someTo zs Q m z f0 N = true) := by
        rw [Hid, someTo_iff]
        rcases HM2.out with ⟨h1, h2⟩ | ⟨i, h1, h2, h3⟩
        · left; rw [← HF0.out, decide_eq_true h1, decide_eq_true h2]; rfl
        · right; exact ⟨i, h1, h2, h3⟩
      clear HM2
      by_cases hN1 : N = 1
      · have e1 : ((N : Int) == 1) = true := by simp; omega
        have e2 : (m == z) = f0 := by rw [← HF0.out, decide_eq_true hN1, Bool.true_and]; by_cases h : m = z; subst h; simp; rw [decide_eq_false h]; simp [h]
        go_wp2
        go_loopw [10, 11] (fun sv iv wr => ∃ (i : Nat) (f : Bool), i ≤ N ∧ iv = .int .i64 (i : Int) ∧ sv = .bool f ∧ Hid (someTo zs Q m z f0 i = f) ∧ Below w6.heap.size w6 wr) (fun _ iv _ => N - (intOf iv).toNat)
        case atStart => exact ⟨0, f0, Nat.zero_le _, rfl, by first | rfl | (congr 1), by simp [Hid, someTo], Below.refl _ _⟩
        case round =>
          obtain ⟨i, f, hi, rfl, rfl, hF, hd⟩ := hrel
          by_cases hlt : i < N
          · have hii : (i : Int) < (N : Int) := by omega
            have ci := (hd.cell (p := ⟨cb, co + i, none⟩) hcb).trans (HCC.out i hlt)
            have cq := (hd.cell (p := ⟨cb, co + Q, none⟩) hcb).trans cq0
            have hcl := Nat.lt_of_lt_of_le hcb hd.size
            have hib := HLB.out i
            have hle := HM1.out i hlt
            have HST2 := SM.out i
            rw [hF.out] at HST2
            obtain ⟨y, hy⟩ : ∃ y, zs[i]?.getD 0 = y := ⟨_, rfl⟩
            rw [hy] at ci hib hle HST2
            have u0 : ∀ u : Beh wr, u.w.cell? ⟨cb, co + i, none⟩ = _ := Beh.cell ci hcl
            have u1 : ∀ u : Beh wr, u.w.cell? ⟨cb, co + Q, none⟩ = _ := Beh.cell cq hcl
            have hwz : IntKind.i64.wrap (z - y) = z - y := IntWalk.i64_in _ (by omega)
            have HST2 := Lib.hid HST2
            clear hy
            by_cases hiq : i = Q
            · have hne : ((i : Int) != (Q : Int)) = false := by simp [hiq]
              have HN : Hid (someTo zs Q m z f0 (i + 1) = f) := by rw [Hid, HST2.out, decide_eq_false (show ¬ i ≠ Q by omega)]; cases f <;> rfl
              clear hle hiq
              cases f
              · skip
                go_wp2_with fail
                refine wp_region_below (by kernel_rfl) (by kernel_rfl) ?_
                repeat (first | go_big_quiet_step (fail) | go_big_quiet_skip)
                refine wpQuiet_nil ?_
                rintro w7 ⟨⟨w7, hb7⟩, rfl⟩
                have hd7 := hd.trans (hb7.mono hd.size)
                have ci7 := (hb7.cell (p := ⟨cb, co + i, none⟩) hcl).trans ci
                have cq7 := (hb7.cell (p := ⟨cb, co + Q, none⟩) hcl).trans cq
                have hcl7 := Nat.lt_of_lt_of_le hcl hb7.size
                have u2 : ∀ u : Beh w7, u.w.cell? ⟨cb, co + i, none⟩ = _ := Beh.cell ci7 hcl7
                have u3 : ∀ u : Beh w7, u.w.cell? ⟨cb, co + Q, none⟩ = _ := Beh.cell cq7 hcl7
                clear hb7 u0 u1 ci cq ci7 cq7
                go_wp2_with fail
                refine wp_region_below (by kernel_rfl) (by kernel_rfl) ?_
                repeat (first | go_big_quiet_step (fail) | go_big_quiet_skip)
                refine wpQuiet_nil ?_
                rintro w8 ⟨⟨w8, hb8⟩, rfl⟩
                have hd8 := hd7.trans (hb8.mono hd7.size)
                clear hb8 u2 u3
                go_wp2
                go_roundw
                case rel => exact ⟨i + 1, false, by omega, by go_num, rfl, HN, hd8⟩
                case measure => simp [intOf]; omega
              · skip
                go_wp2_with fail
                refine wp_region_below (by kernel_rfl) (by kernel_rfl) ?_
                repeat (first | go_big_quiet_step (fail) | go_big_quiet_skip)
                refine wpQuiet_nil ?_
                rintro w7 ⟨⟨w7, hb7⟩, rfl⟩
                have hd7 := hd.trans (hb7.mono hd.size)
                have ci7 := (hb7.cell (p := ⟨cb, co + i, none⟩) hcl).trans ci
                have cq7 := (hb7.cell (p := ⟨cb, co + Q, none⟩) hcl).trans cq
                have hcl7 := Nat.lt_of_lt_of_le hcl hb7.size
                have u2 : ∀ u : Beh w7, u.w.cell? ⟨cb, co + i, none⟩ = _ := Beh.cell ci7 hcl7
                have u3 : ∀ u : Beh w7, u.w.cell? ⟨cb, co + Q, none⟩ = _ := Beh.cell cq7 hcl7
                clear hb7 u0 u1 ci cq ci7 cq7
                go_wp2_with fail
                refine wp_region_below (by kernel_rfl) (by kernel_rfl) ?_
                repeat (first | go_big_quiet_step (fail) | go_big_quiet_skip)
                refine wpQuiet_nil ?_
                rintro w8 ⟨⟨w8, hb8⟩, rfl⟩
                have hd8 := hd7.trans (hb8.mono hd7.size)
                clear hb8 u2 u3
                go_wp2
                go_roundw
                case rel => exact ⟨i + 1, true, by omega, by go_num, rfl, HN, hd8⟩
                case measure => simp [intOf]; omega
            · have hne : ((i : Int) != (Q : Int)) = true := bne_iff_ne.2 (by omega)
              have hlt2 : decide (z - y < m) = false := decide_eq_false (by have := hle hiq; omega)
              by_cases hyz : z - y = m
              · have heq : (z - y == m) = true := by simp [hyz]
                have HN : Hid (someTo zs Q m z f0 (i + 1) = true) := by rw [Hid, HST2.out, decide_eq_true hiq, decide_eq_true hyz]; cases f <;> rfl
                clear hle hiq hyz
                cases f
                · skip
                  go_wp2_with fail
                  refine wp_region_below (by kernel_rfl) (by kernel_rfl) ?_
                  repeat (first | go_big_quiet_step (fail) | go_big_quiet_skip)
                  refine wpQuiet_nil ?_
                  rintro w7 ⟨⟨w7, hb7⟩, rfl⟩
                  have hd7 := hd.trans (hb7.mono hd.size)
                  have ci7 := (hb7.cell (p := ⟨cb, co + i, none⟩) hcl).trans ci
                  have cq7 := (hb7.cell (p := ⟨cb, co + Q, none⟩) hcl).trans cq
                  have hcl7 := Nat.lt_of_lt_of_le hcl hb7.size
                  have u2 : ∀ u : Beh w7, u.w.cell? ⟨cb, co + i, none⟩ = _ := Beh.cell ci7 hcl7
                  have u3 : ∀ u : Beh w7, u.w.cell? ⟨cb, co + Q, none⟩ = _ := Beh.cell cq7 hcl7
                  clear hb7 u0 u1 ci cq ci7 cq7
                  go_wp2_with fail
                  refine wp_region_below (by kernel_rfl) (by kernel_rfl) ?_
                  repeat (first | go_big_quiet_step (fail) | go_big_quiet_skip)
                  refine wpQuiet_nil ?_
                  rintro w8 ⟨⟨w8, hb8⟩, rfl⟩
                  have hd8 := hd7.trans (hb8.mono hd7.size)
                  clear hb8 u2 u3
                  go_wp2
                  go_roundw
                  case rel => exact ⟨i + 1, true, by omega, by go_num, rfl, HN, hd8⟩
                  case measure => simp [intOf]; omega
                · skip
                  go_wp2_with fail
                  refine wp_region_below (by kernel_rfl) (by kernel_rfl) ?_
                  repeat (first | go_big_quiet_step (fail) | go_big_quiet_skip)
                  refine wpQuiet_nil ?_
                  rintro w7 ⟨⟨w7, hb7⟩, rfl⟩
                  have hd7 := hd.trans (hb7.mono hd.size)
                  have ci7 := (hb7.cell (p := ⟨cb, co + i, none⟩) hcl).trans ci
                  have cq7 := (hb7.cell (p := ⟨cb, co + Q, none⟩) hcl).trans cq
                  have hcl7 := Nat.lt_of_lt_of_le hcl hb7.size
                  have u2 : ∀ u : Beh w7, u.w.cell? ⟨cb, co + i, none⟩ = _ := Beh.cell ci7 hcl7
                  have u3 : ∀ u : Beh w7, u.w.cell? ⟨cb, co + Q, none⟩ = _ := Beh.cell cq7 hcl7
                  clear hb7 u0 u1 ci cq ci7 cq7
                  go_wp2_with fail
                  refine wp_region_below (by kernel_rfl) (by kernel_rfl) ?_
                  repeat (first | go_big_quiet_step (fail) | go_big_quiet_skip)
                  refine wpQuiet_nil ?_
                  rintro w8 ⟨⟨w8, hb8⟩, rfl⟩
                  have hd8 := hd7.trans (hb8.mono hd7.size)
                  clear hb8 u2 u3
                  go_wp2
                  go_roundw
                  case rel => exact ⟨i + 1, true, by omega, by go_num, rfl, HN, hd8⟩
                  case measure => simp [intOf]; omega
              · have heq : (z - y == m) = false := by simp [hyz]
                have HN : Hid (someTo zs Q m z f0 (i + 1) = f) := by rw [Hid, HST2.out, decide_eq_false hyz]; cases f <;> simp
                clear hle hiq hyz
                cases f
                · skip
                  go_wp2_with fail
                  refine wp_region_below (by kernel_rfl) (by kernel_rfl) ?_
                  repeat (first | go_big_quiet_step (fail) | go_big_quiet_skip)
                  refine wpQuiet_nil ?_
                  rintro w7 ⟨⟨w7, hb7⟩, rfl⟩
                  have hd7 := hd.trans (hb7.mono hd.size)
                  have ci7 := (hb7.cell (p := ⟨cb, co + i, none⟩) hcl).trans ci
                  have cq7 := (hb7.cell (p := ⟨cb, co + Q, none⟩) hcl).trans cq
                  have hcl7 := Nat.lt_of_lt_of_le hcl hb7.size
                  have u2 : ∀ u : Beh w7, u.w.cell? ⟨cb, co + i, none⟩ = _ := Beh.cell ci7 hcl7
                  have u3 : ∀ u : Beh w7, u.w.cell? ⟨cb, co + Q, none⟩ = _ := Beh.cell cq7 hcl7
                  clear hb7 u0 u1 ci cq ci7 cq7
                  go_wp2_with fail
                  refine wp_region_below (by kernel_rfl) (by kernel_rfl) ?_
                  repeat (first | go_big_quiet_step (fail) | go_big_quiet_skip)
                  refine wpQuiet_nil ?_
                  rintro w8 ⟨⟨w8, hb8⟩, rfl⟩
                  have hd8 := hd7.trans (hb8.mono hd7.size)
                  clear hb8 u2 u3
                  go_wp2
                  go_roundw
                  case rel => exact ⟨i + 1, false, by omega, by go_num, rfl, HN, hd8⟩
                  case measure => simp [intOf]; omega
                · skip
                  go_wp2_with fail
                  refine wp_region_below (by kernel_rfl) (by kernel_rfl) ?_
                  repeat (first | go_big_quiet_step (fail) | go_big_quiet_skip)
                  refine wpQuiet_nil ?_
                  rintro w7 ⟨⟨w7, hb7⟩, rfl⟩
                  have hd7 := hd.trans (hb7.mono hd.size)
                  have ci7 := (hb7.cell (p := ⟨cb, co + i, none⟩) hcl).trans ci
                  have cq7 := (hb7.cell (p := ⟨cb, co + Q, none⟩) hcl).trans cq
                  have hcl7 := Nat.lt_of_lt_of_le hcl hb7.size
                  have u2 : ∀ u : Beh w7, u.w.cell? ⟨cb, co + i, none⟩ = _ := Beh.cell ci7 hcl7
                  have u3 : ∀ u : Beh w7, u.w.cell? ⟨cb, co + Q, none⟩ = _ := Beh.cell cq7 hcl7
                  clear hb7 u0 u1 ci cq ci7 cq7
                  go_wp2_with fail
                  refine wp_region_below (by kernel_rfl) (by kernel_rfl) ?_
                  repeat (first | go_big_quiet_step (fail) | go_big_quiet_skip)
                  refine wpQuiet_nil ?_
                  rintro w8 ⟨⟨w8, hb8⟩, rfl⟩
                  have hd8 := hd7.trans (hb8.mono hd7.size)
                  clear hb8 u2 u3
                  go_wp2
                  go_roundw
                  case rel => exact ⟨i + 1, true, by omega, by go_num, rfl, HN, hd8⟩
                  case measure => simp [intOf]; omega
          · obtain rfl : i = N := by omega
            have hft : f = true := by rw [← hF.out]; exact HST.out
            subst hft
            go_wp2
            go_ret
            exact ⟨rfl, B.out.trans (hd.mono B.out.size)⟩
      · have e1 : ((N : Int) == 1) = false := by simp; omega
        have e2 : f0 = false := by rw [← HF0.out, decide_eq_false hN1]; rfl
        subst e2
        go_wp2
        go_loopw [10, 11] (fun sv iv wr => ∃ (i : Nat) (f : Bool), i ≤ N ∧ iv = .int .i64 (i : Int) ∧ sv = .bool f ∧ Hid (someTo zs Q m z false i = f) ∧ Below w6.heap.size w6 wr) (fun _ iv _ => N - (intOf iv).toNat)
        case atStart => exact ⟨0, false, Nat.zero_le _, rfl, by first | rfl | (congr 1), by simp [Hid, someTo], Below.refl _ _⟩
        case round =>
          obtain ⟨i, f, hi, rfl, rfl, hF, hd⟩ := hrel
          by_cases hlt : i < N
          · have hii : (i : Int) < (N : Int) := by omega
            have ci := (hd.cell (p := ⟨cb, co + i, none⟩) hcb).trans (HCC.out i hlt)
            have cq := (hd.cell (p := ⟨cb, co + Q, none⟩) hcb).trans cq0
            have hcl := Nat.lt_of_lt_of_le hcb hd.size
            have hib := HLB.out i
            have hle := HM1.out i hlt
            have HST2 := SM.out i
            rw [hF.out] at HST2
            obtain ⟨y, hy⟩ : ∃ y, zs[i]?.getD 0 = y := ⟨_, rfl⟩
            rw [hy] at ci hib hle HST2
            have u0 : ∀ u : Beh wr, u.w.cell? ⟨cb, co + i, none⟩ = _ := Beh.cell ci hcl
            have u1 : ∀ u : Beh wr, u.w.cell? ⟨cb, co + Q, none⟩ = _ := Beh.cell cq hcl
            have hwz : IntKind.i64.wrap (z - y) = z - y := IntWalk.i64_in _ (by omega)
            have HST2 := Lib.hid HST2
            clear hy
            by_cases hiq : i = Q
            · have hne : ((i : Int) != (Q : Int)) = false := by simp [hiq]
              have HN : Hid (someTo zs Q m z false (i + 1) = f) := by rw [Hid, HST2.out, decide_eq_false (show ¬ i ≠ Q by omega)]; cases f <;> rfl
              clear hle hiq
              cases f
              · skip
                go_wp2_with fail
                refine wp_region_below (by kernel_rfl) (by kernel_rfl) ?_
                repeat (first | go_big_quiet_step (fail) | go_big_quiet_skip)
                refine wpQuiet_nil ?_
                rintro w7 ⟨⟨w7, hb7⟩, rfl⟩
                have hd7 := hd.trans (hb7.mono hd.size)
                have ci7 := (hb7.cell (p := ⟨cb, co + i, none⟩) hcl).trans ci
                have cq7 := (hb7.cell (p := ⟨cb, co + Q, none⟩) hcl).trans cq
                have hcl7 := Nat.lt_of_lt_of_le hcl hb7.size
                have u2 : ∀ u : Beh w7, u.w.cell? ⟨cb, co + i, none⟩ = _ := Beh.cell ci7 hcl7
                have u3 : ∀ u : Beh w7, u.w.cell? ⟨cb, co + Q, none⟩ = _ := Beh.cell cq7 hcl7
                clear hb7 u0 u1 ci cq ci7 cq7
                go_wp2_with fail
                refine wp_region_below (by kernel_rfl) (by kernel_rfl) ?_
                repeat (first | go_big_quiet_step (fail) | go_big_quiet_skip)
                refine wpQuiet_nil ?_
                rintro w8 ⟨⟨w8, hb8⟩, rfl⟩
                have hd8 := hd7.trans (hb8.mono hd7.size)
                clear hb8 u2 u3
                go_wp2
                go_roundw
                case rel => exact ⟨i + 1, false, by omega, by go_num, rfl, HN, hd8⟩
                case measure => simp [intOf]; omega
              · skip
                go_wp2_with fail
                refine wp_region_below (by kernel_rfl) (by kernel_rfl) ?_
                repeat (first | go_big_quiet_step (fail) | go_big_quiet_skip)
                refine wpQuiet_nil ?_
                rintro w7 ⟨⟨w7, hb7⟩, rfl⟩
                have hd7 := hd.trans (hb7.mono hd.size)
                have ci7 := (hb7.cell (p := ⟨cb, co + i, none⟩) hcl).trans ci
                have cq7 := (hb7.cell (p := ⟨cb, co + Q, none⟩) hcl).trans cq
                have hcl7 := Nat.lt_of_lt_of_le hcl hb7.size
                have u2 : ∀ u : Beh w7, u.w.cell? ⟨cb, co + i, none⟩ = _ := Beh.cell ci7 hcl7
                have u3 : ∀ u : Beh w7, u.w.cell? ⟨cb, co + Q, none⟩ = _ := Beh.cell cq7 hcl7
                clear hb7 u0 u1 ci cq ci7 cq7
                go_wp2_with fail
                refine wp_region_below (by kernel_rfl) (by kernel_rfl) ?_
                repeat (first | go_big_quiet_step (fail) | go_big_quiet_skip)
                refine wpQuiet_nil ?_
                rintro w8 ⟨⟨w8, hb8⟩, rfl⟩
                have hd8 := hd7.trans (hb8.mono hd7.size)
                clear hb8 u2 u3
                go_wp2
                go_roundw
                case rel => exact ⟨i + 1, true, by omega, by go_num, rfl, HN, hd8⟩
                case measure => simp [intOf]; omega
            · have hne : ((i : Int) != (Q : Int)) = true := bne_iff_ne.2 (by omega)
              have hlt2 : decide (z - y < m) = false := decide_eq_false (by have := hle hiq; omega)
              by_cases hyz : z - y = m
              · have heq : (z - y == m) = true := by simp [hyz]
                have HN : Hid (someTo zs Q m z false (i + 1) = true) := by rw [Hid, HST2.out, decide_eq_true hiq, decide_eq_true hyz]; cases f <;> rfl
                clear hle hiq hyz
                cases f
                · skip
                  go_wp2_with fail
                  refine wp_region_below (by kernel_rfl) (by kernel_rfl) ?_
                  repeat (first | go_big_quiet_step (fail) | go_big_quiet_skip)
                  refine wpQuiet_nil ?_
                  rintro w7 ⟨⟨w7, hb7⟩, rfl⟩
                  have hd7 := hd.trans (hb7.mono hd.size)
                  have ci7 := (hb7.cell (p := ⟨cb, co + i, none⟩) hcl).trans ci
                  have cq7 := (hb7.cell (p := ⟨cb, co + Q, none⟩) hcl).trans cq
                  have hcl7 := Nat.lt_of_lt_of_le hcl hb7.size
                  have u2 : ∀ u : Beh w7, u.w.cell? ⟨cb, co + i, none⟩ = _ := Beh.cell ci7 hcl7
                  have u3 : ∀ u : Beh w7, u.w.cell? ⟨cb, co + Q, none⟩ = _ := Beh.cell cq7 hcl7
                  clear hb7 u0 u1 ci cq ci7 cq7
                  go_wp2_with fail
                  refine wp_region_below (by kernel_rfl) (by kernel_rfl) ?_
                  repeat (first | go_big_quiet_step (fail) | go_big_quiet_skip)
                  refine wpQuiet_nil ?_
                  rintro w8 ⟨⟨w8, hb8⟩, rfl⟩
                  have hd8 := hd7.trans (hb8.mono hd7.size)
                  clear hb8 u2 u3
                  go_wp2
                  go_roundw
                  case rel => exact ⟨i + 1, true, by omega, by go_num, rfl, HN, hd8⟩
                  case measure => simp [intOf]; omega
                · skip
                  go_wp2_with fail
                  refine wp_region_below (by kernel_rfl) (by kernel_rfl) ?_
                  repeat (first | go_big_quiet_step (fail) | go_big_quiet_skip)
                  refine wpQuiet_nil ?_
                  rintro w7 ⟨⟨w7, hb7⟩, rfl⟩
                  have hd7 := hd.trans (hb7.mono hd.size)
                  have ci7 := (hb7.cell (p := ⟨cb, co + i, none⟩) hcl).trans ci
                  have cq7 := (hb7.cell (p := ⟨cb, co + Q, none⟩) hcl).trans cq
                  have hcl7 := Nat.lt_of_lt_of_le hcl hb7.size
                  have u2 : ∀ u : Beh w7, u.w.cell? ⟨cb, co + i, none⟩ = _ := Beh.cell ci7 hcl7
                  have u3 : ∀ u : Beh w7, u.w.cell? ⟨cb, co + Q, none⟩ = _ := Beh.cell cq7 hcl7
                  clear hb7 u0 u1 ci cq ci7 cq7
                  go_wp2_with fail
                  refine wp_region_below (by kernel_rfl) (by kernel_rfl) ?_
                  repeat (first | go_big_quiet_step (fail) | go_big_quiet_skip)
                  refine wpQuiet_nil ?_
                  rintro w8 ⟨⟨w8, hb8⟩, rfl⟩
                  have hd8 := hd7.trans (hb8.mono hd7.size)
                  clear hb8 u2 u3
                  go_wp2
                  go_roundw
                  case rel => exact ⟨i + 1, true, by omega, by go_num, rfl, HN, hd8⟩
                  case measure => simp [intOf]; omega
              · have heq : (z - y == m) = false := by simp [hyz]
                have HN : Hid (someTo zs Q m z false (i + 1) = f) := by rw [Hid, HST2.out, decide_eq_false hyz]; cases f <;> simp
                clear hle hiq hyz
                cases f
                · skip
                  go_wp2_with fail
                  refine wp_region_below (by kernel_rfl) (by kernel_rfl) ?_
                  repeat (first | go_big_quiet_step (fail) | go_big_quiet_skip)
                  refine wpQuiet_nil ?_
                  rintro w7 ⟨⟨w7, hb7⟩, rfl⟩
                  have hd7 := hd.trans (hb7.mono hd.size)
                  have ci7 := (hb7.cell (p := ⟨cb, co + i, none⟩) hcl).trans ci
                  have cq7 := (hb7.cell (p := ⟨cb, co + Q, none⟩) hcl).trans cq
                  have hcl7 := Nat.lt_of_lt_of_le hcl hb7.size
                  have u2 : ∀ u : Beh w7, u.w.cell? ⟨cb, co + i, none⟩ = _ := Beh.cell ci7 hcl7
                  have u3 : ∀ u : Beh w7, u.w.cell? ⟨cb, co + Q, none⟩ = _ := Beh.cell cq7 hcl7
                  clear hb7 u0 u1 ci cq ci7 cq7
                  go_wp2_with fail
                  refine wp_region_below (by kernel_rfl) (by kernel_rfl) ?_
                  repeat (first | go_big_quiet_step (fail) | go_big_quiet_skip)
                  refine wpQuiet_nil ?_
                  rintro w8 ⟨⟨w8, hb8⟩, rfl⟩
                  have hd8 := hd7.trans (hb8.mono hd7.size)
                  clear hb8 u2 u3
                  go_wp2
                  go_roundw
                  case rel => exact ⟨i + 1, false, by omega, by go_num, rfl, HN, hd8⟩
                  case measure => simp [intOf]; omega
                · skip
                  go_wp2_with fail
                  refine wp_region_below (by kernel_rfl) (by kernel_rfl) ?_
                  repeat (first | go_big_quiet_step (fail) | go_big_quiet_skip)
                  refine wpQuiet_nil ?_
                  rintro w7 ⟨⟨w7, hb7⟩, rfl⟩
                  have hd7 := hd.trans (hb7.mono hd.size)
                  have ci7 := (hb7.cell (p := ⟨cb, co + i, none⟩) hcl).trans ci
                  have cq7 := (hb7.cell (p := ⟨cb, co + Q, none⟩) hcl).trans cq
                  have hcl7 := Nat.lt_of_lt_of_le hcl hb7.size
                  have u2 : ∀ u : Beh w7, u.w.cell? ⟨cb, co + i, none⟩ = _ := Beh.cell ci7 hcl7
                  have u3 : ∀ u : Beh w7, u.w.cell? ⟨cb, co + Q, none⟩ = _ := Beh.cell cq7 hcl7
                  clear hb7 u0 u1 ci cq ci7 cq7
                  go_wp2_with fail
                  refine wp_region_below (by kernel_rfl) (by kernel_rfl) ?_
                  repeat (first | go_big_quiet_step (fail) | go_big_quiet_skip)
                  refine wpQuiet_nil ?_
                  rintro w8 ⟨⟨w8, hb8⟩, rfl⟩
                  have hd8 := hd7.trans (hb8.mono hd7.size)
                  clear hb8 u2 u3
                  go_wp2
                  go_roundw
                  case rel => exact ⟨i + 1, true, by omega, by go_num, rfl, HN, hd8⟩
                  case measure => simp [intOf]; omega
          · obtain rfl : i = N := by omega
            have hft : f = true := by rw [← hF.out]; exact HST.out
            subst hft
            go_wp2
            go_ret
            exact ⟨rfl, B.out.trans (hd.mono B.out.size)⟩
  · clear w0
    go_enter Tq.func7, Tq.ntmps7
    go_wp2
    go_ret
    exact ⟨rfl, Below.refl _ _⟩

end Go.Proofs.Ytgkakgibgfehaaa.fnPluralityMargin
