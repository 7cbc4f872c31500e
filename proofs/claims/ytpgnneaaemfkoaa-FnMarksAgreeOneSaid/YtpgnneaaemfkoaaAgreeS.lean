/-
  spec.MarksAgree: it answers as the list says, in memory of its own. No condition but what each theorem says.
-/
import Derived.Test.YtpgnneaaemfkoaaGrid
import Derived.Test.YtpgnneaaemfkoaaMarksOf
namespace Go.Proofs.Ytpgnneaaemfkoaa
open Go.RowKit

theorem bests_take (rs : List (List Int)) (k : Nat) (h : k < (headL rs).length) : (bests rs).take (k + 1) = (bests rs).take k ++ [bestB rs k] := by
  rw [List.take_succ_eq_append_getElem (by rw [bests_length]; exact h)]
  simp [bests]
theorem wide_of {rs : List (List Int)} (h : readB rs = true) (c : Nat) (hc : c < (headL rs).length) : Wide rs c := fun i hi => by
  rw [(readB_row h i hi).2]; exact hc
theorem rowOk_eq (rs : List (List Int)) (r : List Int) (l l0 : Nat) (h : r.length = l) (h0 : (headL rs).length = l0) : rowOk rs r = (rankB r && ((l : Int) == (l0 : Int))) := by rw [rowOk, h, h0]

set_option maxHeartbeats 4000000 in
/-- **spec.MarksAgree**. -/
theorem specAgree_any (a : Option Addr) (len cap : Nat) (rs : List (List Int)) (w : World) (h : IsRows w a len cap rs) :
    Calls Try.prog 10 #[.slice a len cap] w (Told w (agreeL rs) (agreeB rs)) := by
  obtain ⟨i0, hi, hz0, hz1, hz2⟩ := info_parts int_info
  have H := Lib.hid h
  have h1 := h.1
  have hm := h.2.2.1
  clear h
  have HV : Hid (readB rs = (readTo rs len && inB (len : Int) 1 5)) := by unfold Hid readB; rw [h1]
  have H1 := Lib.hid h1; clear h1
  obtain ⟨g, hg⟩ : ∃ g, w.heap.size = g := ⟨_, rfl⟩
  have HBL : Hid (∀ wr, Below g w wr → IsRows wr a len cap rs) := fun wr hb => H.out.below (by rw [hg]; exact hb)
  have HO0 : Hid ((w.alloc (.cells #[] 3)).ownsRow g 3 1 (.slice (some ⟨g, 0, none⟩) 0 0) 0 (((bests rs).take 0).map (Value.int .i64))) := by
    rw [← hg]; exact World.ownsRow_lit (base := w.heap.size) (e := 3) (size := 1) w #[] 0 (Nat.le_refl _) (by unfold maxLen; omega) rfl
  have hB0 : Below g w (w.alloc (.cells #[] 3)) := by rw [← hg]; exact (Below.refl _ w).alloc (Nat.le_refl _) _
  go_enter Try.func10, Try.ntmps10
  go_wp2
  obtain ⟨w1, hw1⟩ : ∃ w1, w.alloc (.cells #[] 3) = w1 := ⟨_, rfl⟩
  rw [hw1] at HO0 hB0 ⊢
  clear hw1
  have HI1 := Lib.hid (H.out.below (by rw [hg]; exact hB0))
  go_loopw [5] (fun i wr => ∃ k : Nat, k ≤ len ∧ i = .int .i64 k ∧ Hid (readTo rs k = true) ∧ Dr w1 wr) (fun i _ => len - (intOf i).toNat)
  case atStart => exact ⟨0, Nat.zero_le _, rfl, by simp [Hid, readTo], Dr.refl _⟩
  case round =>
    obtain ⟨k, hk, rfl, hc, hd⟩ := hrel
    by_cases hlt : k < len
    · obtain ⟨-, -, -, h4⟩ := HI1.out.dr hd
      obtain ⟨b, off, rfl, hb, hcell⟩ := h4 (by omega)
      obtain ⟨ak, lk, ck, hck, hIk⟩ := hcell k hlt
      obtain ⟨a0, l0, c0, hc0, hI0⟩ := hcell 0 (by omega)
      rw [Nat.add_zero] at hc0
      have HR := rowOk_eq rs (rs[k]?.getD []) lk l0 hIk.1 hI0.1
      have HS := readTo_succ rs k
      rw [hc.out, Bool.true_and] at HS
      obtain ⟨z, hz⟩ : ∃ z, rs[k]?.getD [] = z := ⟨_, rfl⟩
      rw [hz] at HR HS hIk
      have HR := Lib.hid HR
      have HS := Lib.hid HS
      have HIk := Lib.hid hIk
      have hlk := hIk.2.2.1
      have hl0 := hI0.2.2.1
      clear h4 hcell hIk hI0 hz
      by_cases hok : rankB z = true ∧ lk = l0
      · obtain ⟨hrk, rfl⟩ := hok
        have hne : ((lk : Int) != (lk : Int)) = false := by simp
        have HK := Lib.hid hrk
        go_wp2
        go_quiet (first | (go_at_call 27; exact quiet_same (specMarks_any _ _ _ _ _ (HIk.out.drewN _))))
        go_wp2
        go_roundw
        case rel => exact ⟨k + 1, by omega, by go_num, by unfold Hid; rw [HS.out, HR.out, HK.out]; simp, hd.drewN _⟩
        case measure => simp [intOf]; omega
      · have hr1 : readTo rs (k + 1) = false := by
          rw [HS.out, HR.out]
          cases hq : rankB z
          · rfl
          · have : ¬ lk = l0 := fun e => hok ⟨hq, e⟩
            simp; omega
        have hno : Hid (agreeB rs = false) := agreeB_no (by rw [HV.out, readTo_no hr1 hlt]; rfl)
        clear hr1
        have hend : ∀ nq, Told w (agreeL rs) (agreeB rs) (.returned (.tuple #[.slice (some ⟨(wr.drewN nq).heap.size, 0, none⟩) 0 0, .bool false])) ((wr.drewN nq).alloc (.cells #[] 3)) := by
          intro nq
          have hBB : Below g w (wr.drewN nq) := hB0.trans ((hd.drewN _).below _)
          have hsz : g ≤ (wr.drewN nq).heap.size := by have := hBB.size; rw [hg] at this; exact this
          refine ⟨some ⟨(wr.drewN nq).heap.size, 0, none⟩, 0, ?_, ?_, ?_⟩
          · rw [agreeL_no hno.out, hno.out]; rfl
          · rw [agreeL_no hno.out, hg]; exact World.ownsRow_lit _ #[] 0 hsz (by unfold maxLen; omega) rfl
          · rw [hg]; exact hBB.alloc hsz _
        have hend := Lib.hid hend
        cases hrk : rankB z
        · go_wp2
          go_quiet (first | (go_at_call 27; exact quiet_same (specMarks_any _ _ _ _ _ (HIk.out.drewN _))))
          go_wp2
          go_ret2
          exact hend.out _
        · have hll : ¬ lk = l0 := fun e => hok ⟨hrk, e⟩
          have hne : ((lk : Int) != (l0 : Int)) = true := by rw [bne_iff_ne]; omega
          clear hok
          go_wp2
          go_quiet (first | (go_at_call 27; exact quiet_same (specMarks_any _ _ _ _ _ (HIk.out.drewN _))))
          go_wp2
          go_ret2
          exact hend.out _
    · obtain rfl : k = len := by omega
      have hBw : Below g w wr := hB0.trans (hd.below _)
      have hszw : g ≤ wr.heap.size := by have := hBw.size; rw [hg] at this; exact this
      cases hin : inB (k : Int) 1 5
      · have hno : Hid (agreeB rs = false) := agreeB_no (by rw [HV.out, hin, Bool.and_false])
        have HN := Lib.hid hin; clear hin
        go_wp2_with fail
        refine (l6In_any _ _ _ _).mono ?_
        rintro e w2 ⟨he, rfl⟩
        rw [HN.out] at he
        subst he
        go_wp2
        go_ret2
        refine ⟨some ⟨wr.heap.size, 0, none⟩, 0, ?_, ?_, ?_⟩
        · rw [agreeL_no hno.out, hno.out]; rfl
        · rw [agreeL_no hno.out, hg]; exact World.ownsRow_lit _ #[] 0 hszw (by unfold maxLen; omega) rfl
        · rw [hg]; exact hBw.alloc hszw _
      · have hrd : readB rs = true := by rw [HV.out, hin, hc.out]; rfl
        have hk1 : 1 ≤ k ∧ k ≤ 5 := by have := readB_len hrd; rw [H1.out] at this; exact this
        obtain ⟨hk1, hk5⟩ := hk1
        obtain ⟨n, hn⟩ : ∃ n, (headL rs).length = n := ⟨_, rfl⟩
        have hn5 : 1 ≤ n ∧ n ≤ 5 := by rw [← hn]; exact readB_head hrd
        obtain ⟨hn1, hn5⟩ := hn5
        have HRD := Lib.hid hrd
        have HNL := Lib.hid hn
        have HN := Lib.hid hin
        clear hrd hn hin
        have HO1 : Hid (wr.ownsRow g 3 1 (.slice (some ⟨g, 0, none⟩) 0 0) 0 (((bests rs).take 0).map (Value.int .i64))) := owns_under HO0.out (hd.below _)
        go_wp2_with fail
        refine (l6In_any _ _ _ _).mono ?_
        rintro e w2 ⟨he, rfl⟩
        rw [HN.out] at he
        subst he
        clear HO0 hB0 HI1 hd hc
        go_wp2
        go_loopw [4, 6] (fun o i wr => ∃ (c : Nat) (a1 : Option Addr) (c1 : Nat), c ≤ n ∧ i = .int .i64 c ∧ o = .slice a1 c c1 ∧ Hid (wr.ownsRow g 3 1 (.slice a1 c c1) c (((bests rs).take c).map (Value.int .i64))) ∧ Hid (haveTo rs c = true) ∧ Below g w wr ∧ g ≤ wr.heap.size) (fun _ i _ => n - (intOf i).toNat)
        case atStart => exact ⟨0, some ⟨g, 0, none⟩, 0, Nat.zero_le _, rfl, rfl, HO1, by simp [Hid, haveTo], hBw, hszw⟩
        case round =>
          obtain ⟨c, a1, c1, hcn, rfl, rfl, ho, hh, hB, hsz⟩ := hrel
          have hIR := Lib.hid (HBL.out _ hB)
          obtain ⟨-, -, -, h4⟩ := hIR.out
          obtain ⟨b, off, rfl, hb, hcell⟩ := h4 (by omega)
          obtain ⟨a0, l0, c0, hc0, hI0⟩ := hcell 0 (by omega)
          rw [Nat.add_zero] at hc0
          obtain rfl : n = l0 := by rw [← HNL.out]; exact hI0.1
          clear h4 hcell hI0
          by_cases hlt : c < n
          · have HW := Lib.hid (wide_of HRD.out c (by rw [HNL.out]; exact hlt))
            go_wp2
            go_loop [7, 8] (fun be mm => ∃ j : Nat, j ≤ 10 ∧ mm = .int .i64 j ∧ be = .int .i64 (bestTo rs c j)) (fun _ mm => 10 - (intOf mm).toNat)
            case atStart => exact ⟨0, by omega, rfl, rfl⟩
            case round =>
              obtain ⟨j, hj, rfl, rfl⟩ := hrel
              by_cases hj10 : j < 10
              · have hq5 := cnt_le rs c (j : Int)
                rw [H1.out] at hq5
                have hbt : bestTo rs c (j + 1) = if k < 2 * cnt rs c (j : Int) then (j : Int) else bestTo rs c j := by rw [bestTo, H1.out]
                obtain ⟨q, hq⟩ : ∃ q, cnt rs c (j : Int) = q := ⟨_, rfl⟩
                rw [hq] at hq5 hbt
                have HQ := Lib.hid hq
                have HBT := Lib.hid hbt
                clear hq hbt
                go_wp2_with fail
                refine (l2Count_any _ _ _ rs c (j : Int) _ hIR.out HW.out).mono ?_
                rintro e w2 ⟨he, rfl⟩
                rw [HQ.out] at he
                subst he
                by_cases hmore : k < 2 * q
                · have hm1 : (k : Int) < 2 * (q : Int) := by omega
                  go_wp2
                  go_round
                  case rel => exact ⟨j + 1, by omega, by go_num, by rw [HBT.out, if_pos hmore]⟩
                  case measure => simp [intOf]; omega
                · have hm1 : ¬ (k : Int) < 2 * (q : Int) := by omega
                  go_wp2
                  go_round
                  case rel => exact ⟨j + 1, by omega, by go_num, by rw [HBT.out, if_neg hmore]⟩
                  case measure => simp [intOf]; omega
              · obtain rfl : j = 10 := by omega
                rw [show bestTo rs c 10 = bestB rs c from rfl]
                have HS := haveTo_succ rs c
                rw [hh.out, Bool.true_and] at HS
                have HT := bests_take rs c (by rw [HNL.out]; exact hlt)
                obtain ⟨z, hz⟩ : ∃ z, bestB rs c = z := ⟨_, rfl⟩
                rw [hz] at HS HT ⊢
                have HS := Lib.hid HS
                have HT := Lib.hid HT
                clear hz
                by_cases hneg : z < 0
                · have hno : Hid (agreeB rs = false) := agreeB_out (by rw [HNL.out]; exact haveTo_no (by rw [HS.out]; simp; omega) hlt)
                  go_wp2
                  go_ret2
                  refine ⟨some ⟨wr.heap.size, 0, none⟩, 0, ?_, ?_, ?_⟩
                  · rw [agreeL_no hno.out, hno.out]; rfl
                  · rw [agreeL_no hno.out, hg]; exact World.ownsRow_lit _ #[] 0 hsz (by unfold maxLen; omega) rfl
                  · rw [hg]; exact hB.alloc hsz _
                · have hHS : Hid (haveTo rs (c + 1) = true) := by unfold Hid; rw [HS.out]; simp; omega
                  go_wp2_with (at_builtin; refine wpList_append_own _ rfl _ _ 25 rfl g 3 i0 (.int .i64 0) 1 8 Try.underlying25 hi hz0 hz1 hz2 rfl (by decide) _ _ _ rfl (ho.out.alloc _) ⟨wr.heap.size, 0, none⟩ 1 1 [.int .i64 z] rfl rfl (cell_one_new _ _ _) (by simp [Value.oneCell']) (by unfold maxLen; omega) (by omega) (by simp; omega) ?_; intro v' w4 hown' hgrow _; obtain ⟨a4, cap4, rfl⟩ := owns_slice hown')
                  have hrow : ∀ j, (Value.slice a1 c c1).ownBlock = some j → g ≤ j := fun j ej => (ho.out.lt j ej).1
                  have B4 : Below g w w4 := (hB.alloc hsz _).grown hgrow (by simp; omega) hrow
                  have O4 : Hid (w4.ownsRow g 3 1 (.slice a4 (c + 1) cap4) (c + 1) (((bests rs).take (c + 1)).map (Value.int .i64))) := by
                    unfold Hid; rw [HT.out, List.map_append]; exact hown'
                  have hsz4 : g ≤ w4.heap.size := by have := hgrow.size; simp at this; omega
                  clear hown' hgrow hrow ho hIR hB
                  go_wp2
                  go_roundw
                  case rel => exact ⟨c + 1, a4, cap4, by omega, by go_num, rfl, O4, hHS, B4, hsz4⟩
                  case measure => simp [intOf]; omega
          · obtain rfl : c = n := by omega
            have hyes : agreeB rs = true := agreeB_yes HRD.out (by rw [HNL.out]; exact hh.out)
            have hl : (agreeL rs).length = c := by rw [agreeL_yes hyes, bests_length, HNL.out]
            have hT : (bests rs).take c = agreeL rs := by rw [agreeL_yes hyes, List.take_of_length_le (by rw [bests_length, HNL.out]; exact Nat.le_refl _)]
            have HL := Lib.hid hl
            have HT := Lib.hid hT
            have HY := Lib.hid hyes
            clear hl hT hyes
            go_wp2
            go_ret2
            refine ⟨a1, c1, ?_, ?_, ?_⟩
            · rw [HL.out, HY.out]; rfl
            · rw [HL.out, hg, ← HT.out]; exact ho.out
            · rw [hg]; exact hB

end Go.Proofs.Ytpgnneaaemfkoaa
