/-
  laws.FnTransferOut returns true for every code. No condition.
-/
import Derived.Test.YtafnmongglhlaaaGrp1
import Derived.Test.YtafnmongglhlaaaGrp25
import Derived.Test.YtafnmongglhlaaaGrpS
import Derived.Test.YtafnmongglhlaaaGrpQ
namespace Go.Proofs.Ytafnmongglhlaaa.fnTransferOut
open Go.RowKit
set_option linter.unusedVariables false


set_option maxRecDepth 100000 in
set_option maxHeartbeats 2000000 in
/-- The law's walk: it returns true, and writes nothing that was there. -/
theorem walk (a0 : Option Addr) (len0 cap0 : Nat) (z0 : List Int) (w : World) (w0 : IsRow .u8 w a0 len0 cap0 z0) :
    Calls Try.prog 6 #[.slice a0 len0 cap0] w fun e w' => e = .returned (.bool true) ∧ Below w.heap.size w w' := by
  by_cases hl : len0 ≤ 1048576
  · skip
    have hcap := w0.cap
    have HB := Lib.hid w0.bytes; clear w0
    go_enter Try.func6, Try.ntmps6
    go_wp2_with fail
    refine (drawTfSteps_any a0 len0 cap0 _ _ HB.out hcap (by omega)).mono ?_
    rintro e w1 ⟨xs, g, c, lots, al, cl, s, rfl, hp, hpv, hol, hl5, hs4, hb⟩
    have B := Lib.hid hb
    have P := Lib.hid hp
    have HSM := Lib.hid hp.2.1
    have HPV := Lib.hid hpv
    obtain ⟨n, hn⟩ : ∃ n, lots.length = n := ⟨_, rfl⟩
    rw [hn] at hol hl5 ⊢
    have J := Lib.hid (IsInts.of_owned hol (by omega))
    have HN := Lib.hid hn
    have hx12 := (pilesB_pos hpv).2.2.2.2
    clear hb HB hp hol hn hpv
    obtain ⟨v, hv⟩ : ∃ v, transB xs lots (s : Int) = v := ⟨_, rfl⟩
    obtain ⟨l, hL⟩ : ∃ l, tfAll xs lots (s : Int) = l := ⟨_, rfl⟩
    have hl5' : l.length ≤ 5 := by rw [← hL]; exact tfAll_short _ _ _
    have HV := Lib.hid hv
    have HL := Lib.hid hL
    clear hv hL
    have hne : (v != v) = false := by cases v <;> rfl
    have heq : (v == v) = true := by cases v <;> rfl
    go_wp2_with fail
    refine (implSteps_as _ _ _ xs _ n cl lots (s : Int) l v _ P.out.piles HSM.out J.out HV.out HL.out).mono ?_
    rintro e w2 ⟨a1, c1, gs1, rfl, ho, hb⟩
    have P := Lib.hid (P.out.below hb)
    have J := Lib.hid (J.out.below hb)
    have I1 := Lib.hid (ho.is (by omega) (by omega))
    have B := Lib.hid (B.out.trans (hb.mono B.out.size))
    clear hb ho
    go_wp2_with fail
    refine (specSteps_as _ _ _ xs _ n cl lots (s : Int) l v _ P.out.piles HSM.out J.out HV.out HL.out).mono ?_
    rintro e w3 ⟨a2, c2, gs2, rfl, ho, hb⟩
    have P := Lib.hid (P.out.below hb)
    have J := Lib.hid (J.out.below hb)
    have I1 := Lib.hid (I1.out.below hb)
    have I2 := Lib.hid (ho.is (by omega) (by omega))
    have B := Lib.hid (B.out.trans (hb.mono B.out.size))
    clear hb ho
    go_wp2_with fail
    refine (sameSteps_self _ _ _ l _ _ _ I1.out I2.out).mono ?_
    rintro e w4 ⟨rfl, hd⟩
    have hb := hd.below w3.heap.size
    have P := Lib.hid (P.out.below hb)
    have J := Lib.hid (J.out.below hb)
    have I1 := Lib.hid (I1.out.below hb)
    have I2 := Lib.hid (I2.out.below hb)
    have B := Lib.hid (B.out.trans (hb.mono B.out.size))
    clear hb hd
    cases v
    · skip
      go_wp2_with fail
      refine (sameSteps_self _ _ _ l _ _ _ I1.out I2.out).mono ?_
      rintro e w5 ⟨rfl, hd⟩
      have hb := hd.below w4.heap.size
      have P := Lib.hid (P.out.below hb)
      have J := Lib.hid (J.out.below hb)
      have I1 := Lib.hid (I1.out.below hb)
      have I2 := Lib.hid (I2.out.below hb)
      have B := Lib.hid (B.out.trans (hb.mono B.out.size))
      clear hb hd
      go_wp2
      go_ret
      exact ⟨rfl, B.out⟩
    obtain ⟨hlo, hfi, hs12, hsn, hsum⟩ := (transB_iff _ _ _).1 HV.out
    rw [HN.out] at hsn hfi
    have ARG := trans_arg HV.out
    have hS2 : s ≤ 2 := by omega
    have hSn : s ≤ lots.length := by rw [HN.out]; omega
    have GOOD := tf_start ARG hS2 hSn
    have HRUN : Hid (l = tfRun xs lots (quoR (sumL xs) (s : Int)) lots.length (tfStart xs lots.length s)) := by rw [Hid, ← HL.out, tfAll_yes HV.out, Int.toNat_natCast]
    have HTH : Hid (thereL lots (tfG (tfStart xs lots.length s).gs) = lots) := there_start hlo
    have hn1 : 1 ≤ n := by omega
    have hqr := ARG.qpos
    have hqt := ARG.qtop
    have HIN : Hid (∀ t ∈ l, InOk (quoR (sumL xs) (s : Int)) n t) := fun t ht => by have h1 := in_run ARG lots.length _ GOOD t (by rw [← HRUN.out]; exact ht); rw [HN.out] at h1; exact h1
    have HAR := Lib.hid ARG
    have HGD := Lib.hid GOOD
    have HLO := Lib.hid hlo
    have HFI := Lib.hid hfi
    clear ARG GOOD hlo hfi
    have HOU : Hid (OutOk n l []) := by have h1 := out_run HAR.out lots.length _ [] HGD.out (fun z hz => by have h2 := (there_mem.1 (show z ∈ thereL lots (tfG (tfStart xs lots.length s).gs) by rw [HTH.out]; exact hz)).2; rw [h2]; simp); rw [← HRUN.out, HN.out] at h1; exact h1
    obtain ⟨i0, hi0, hz0, hz1, hz2⟩ := info_parts int_info
    obtain ⟨WB, hWB⟩ : ∃ WB, w4.heap.size = WB := ⟨_, rfl⟩
    have hE0 := Lib.hid (World.ownsRow_lit (base := WB) (e := 3) (size := 1) w4 #[] 0 (by omega) (by unfold maxLen; omega) rfl)
    have hBE : Hid (Below WB w4 (w4.alloc (.cells #[] 3))) := by subst hWB; exact (Below.refl _ _).alloc (Nat.le_refl _) _
    have HWB := Lib.hid hWB
    have hgd := run_guardF
    clear hWB
    go_wp2
    go_loopw [10, 11, 12] (fun gv iv _ wr => ∃ (i : Nat) (gone : List Int) (a3 : Option Addr) (c3 : Nat), i ≤ l.length ∧ iv = .int .i64 (i : Int) ∧ gv = .slice a3 i c3 ∧ Hid (gone.length = i) ∧ Hid (OutOk n (l.drop i) gone) ∧ Hid (wr.ownsRow WB 3 1 (.slice a3 i c3) i (gone.map (Value.int .i64))) ∧ Hid (Below WB w4 wr)) (fun _ iv _ _ => l.length - (intOf iv).toNat)
    case atStart => exact ⟨0, [], _, _, Nat.zero_le _, rfl, rfl, rfl, HOU.out, hE0.out, hBE.out⟩
    case round =>
      clear hE0 hBE
      rename World => wx
      obtain ⟨i, gone, a3, c3, hi, rfl, rfl, hgl, hO, hro, hB⟩ := hrel
      have hBx : Below w4.heap.size w4 wx := HWB.out.symm ▸ hB.out
      have hxWB : WB ≤ wx.heap.size := by have := hBx.size; have := HWB.out; omega
      by_cases hlt : i < l.length
      · obtain ⟨⟨cs, x, k⟩, hst⟩ : ∃ st, l[i]? = some st := ⟨_, List.getElem?_eq_getElem hlt⟩
        have hdr : l.drop i = (cs, x, k) :: l.drop (i + 1) := drop_at hst
        have ho := hO.out
        rw [hdr] at ho
        obtain ⟨o1, o2, o3⟩ := ho
        have HO1 : Hid (∀ j, j < n → ((j : Int) ∈ gone → fAt cs j = (0, 1)) ∧ ((j : Int) ∉ gone → k = 2 → lessF (fAt cs j) (tfC cs x) = false)) := o1
        have HO3 : Hid (OutOk n (l.drop (i + 1)) (gone ++ [x])) := o3
        have hin := HIN.out _ (List.mem_of_getElem? hst)
        have hcl : cs.length = n := hin.len
        have hwr : 0 ≤ x ∧ x < (n : Int) := hin.who
        have HFR : Hid (∀ j, j < n → fracB (fAt cs j) = true) := hin.fr
        have hii : (i : Int) < (l.length : Int) := by omega
        obtain ⟨q, rfl⟩ := Int.eq_ofNat_of_zero_le hwr.1
        have hqn : q < n := by omega
        have hqi : (q : Int) < (n : Int) := by omega
        obtain ⟨b1, off1, a4, l4, c4, rfl, hl1, k0, k1, k2, f1⟩ := I1.out.at hst
        obtain rfl : l4 = n := by rw [← hcl]; exact f1.1.symm
        have k1 : w4.cell? ⟨b1, off1 + i * 3 + 1, none⟩ = some (.int .i64 (q : Int)) := k1
        have k2 : w4.cell? ⟨b1, off1 + i * 3 + 2, none⟩ = some (.int .i64 (k : Int)) := k2
        have F1 := Lib.hid f1
        have K0 := Lib.hid k0
        have K1 := Lib.hid k1
        have K2 := Lib.hid k2
        have m0 := (hBx.cell (p := ⟨b1, off1 + i * 3, none⟩) hl1).trans k0
        clear hdr o1 o2 o3 hin f1 hst hO k0 k1 k2
        go_wp2
        go_loopw [12] (fun jv wr => ∃ j : Nat, j ≤ l4 ∧ jv = .int .i64 (j : Int) ∧ Below wx.heap.size wx wr) (fun jv _ => l4 - (intOf jv).toNat)
        case atStart => exact ⟨0, Nat.zero_le _, rfl, Below.refl _ _⟩
        case round =>
          clear m0
          obtain ⟨j, hj, rfl, hb⟩ := hrel
          have hBy := hBx.trans (hb.mono hBx.size)
          have k0w := (hBy.cell (p := ⟨b1, off1 + i * 3, none⟩) hl1).trans K0.out
          have k1w := (hBy.cell (p := ⟨b1, off1 + i * 3 + 1, none⟩) hl1).trans K1.out
          have k2w := (hBy.cell (p := ⟨b1, off1 + i * 3 + 2, none⟩) hl1).trans K2.out
          have hlw := Nat.lt_of_lt_of_le hl1 hBy.size
          by_cases hjt : j < l4
          · have hji : (j : Int) < (l4 : Int) := by omega
            have ROW := Lib.hid (IsInts.of_owned (owns_under hro.out hb) (by omega))
            obtain ⟨fb, fo, rfl, hfb, c0, c1⟩ := (F1.out.below hBy).at hjt
            obtain ⟨fb', fo', he, -, d0, d1⟩ := (F1.out.below hBy).at hqn
            injection he with he
            injection he with he1 he2 _
            subst he1
            subst he2
            have hoj := HO1.out j hjt
            have hfj := HFR.out j hjt
            have hfq := HFR.out q hqn
            rw [tfC_nat] at hoj
            obtain ⟨x1, y1, hx⟩ : ∃ x1 y1, fAt cs j = (x1, y1) := ⟨_, _, rfl⟩
            obtain ⟨x2, y2, hy⟩ : ∃ x2 y2, fAt cs q = (x2, y2) := ⟨_, _, rfl⟩
            rw [hx] at hoj hfj c0 c1
            rw [hy] at hoj hfq d0 d1
            obtain ⟨t, ht⟩ : ∃ t, hasB gone (j : Int) = t := ⟨_, rfl⟩
            have HT := Lib.hid ht
            have HOJ := Lib.hid hoj
            have hmem : t = true ↔ (j : Int) ∈ gone := by rw [← ht]; unfold hasB; simp
            have HMM := Lib.hid hmem
            have HLB : Hid (k = 2 → t = false → lessB (x1, y1) (x2, y2) = false) := fun e1 e2 => by
              unfold lessB
              rw [hfj, hfq, hoj.2 (fun h => by rw [hmem.2 h] at e2; cases e2) e1]; rfl
            clear hx hy ht hoj hfj hfq hmem
            go_wp2_with fail
            refine (hasInt_as _ i c3 gone (j : Int) t _ ROW.out HT.out).mono ?_
            rintro e w9 ⟨rfl, rfl⟩
            cases t
            · have u0 : ∀ u : Beh wr, u.w.cell? ⟨b1, off1 + i * 3, none⟩ = _ := Beh.cell k0w hlw
              have u1 : ∀ u : Beh wr, u.w.cell? ⟨b1, off1 + i * 3 + 1, none⟩ = _ := Beh.cell k1w hlw
              have u2 : ∀ u : Beh wr, u.w.cell? ⟨b1, off1 + i * 3 + 2, none⟩ = _ := Beh.cell k2w hlw
              have u3 : ∀ u : Beh wr, u.w.cell? ⟨fb, fo + j * 2, none⟩ = _ := Beh.cell c0 hfb
              have u4 : ∀ u : Beh wr, u.w.cell? ⟨fb, fo + j * 2 + 1, none⟩ = _ := Beh.cell c1 hfb
              have u5 : ∀ u : Beh wr, u.w.cell? ⟨fb, fo + q * 2, none⟩ = _ := Beh.cell d0 hfb
              have u6 : ∀ u : Beh wr, u.w.cell? ⟨fb, fo + q * 2 + 1, none⟩ = _ := Beh.cell d1 hfb
              clear k0w k1w k2w c0 c1 d0 d1
              by_cases hk2 : k = 2
              · subst hk2
                have HLL := Lib.hid (HLB.out rfl rfl)
                go_wp2_with fail
                refine wp_region_below (by kernel_rfl) (by kernel_rfl) ?_
                repeat (go_big_quiet_step (first | (go_at_call 22; exact Calls.beh (implFracLess_as x1 y1 x2 y2 false _ HLL.out))))
                refine wpQuiet_nil ?_
                rintro w8 ⟨⟨_, hb8'⟩, he⟩
                have hb8 : Below wr.heap.size wr w8 := by rw [he]; exact hb8'
                have hB8 := hb.trans (hb8.mono hb.size)
                clear hb8 hb8' he u0 u1 u2 u3 u4 u5 u6
                go_wp2
                go_roundw
                case rel => exact ⟨j + 1, by omega, by go_num, hB8⟩
                case measure => simp [intOf]; omega
              · have e2 : ((k : Int) == 2) = false := by simp; omega
                clear hk2
                go_wp2_with fail
                refine wp_region_below (by kernel_rfl) (by kernel_rfl) ?_
                repeat (go_big_quiet_step (fail))
                refine wpQuiet_nil ?_
                rintro w8 ⟨⟨_, hb8'⟩, he⟩
                have hb8 : Below wr.heap.size wr w8 := by rw [he]; exact hb8'
                have hB8 := hb.trans (hb8.mono hb.size)
                clear hb8 hb8' he u0 u1 u2 u3 u4 u5 u6
                go_wp2
                go_roundw
                case rel => exact ⟨j + 1, by omega, by go_num, hB8⟩
                case measure => simp [intOf]; omega
            · have hz := HOJ.out.1 (HMM.out.1 rfl)
              injection hz with hz1 hz2
              subst hz1
              subst hz2
              have hq1 := run_neqF 0 1 0 1 false (by rw [eqF_self]; rfl)
              go_wp2
              go_roundw
              case rel => exact ⟨j + 1, by omega, by go_num, hb⟩
              case measure => simp [intOf]; omega
          · obtain rfl : j = l4 := by omega
            have hroy := Lib.hid (owns_under hro.out hb)
            have hBWy : Hid (Below WB w4 wr) := HWB.out ▸ hBy
            have hyWB : WB ≤ wr.heap.size := by have := hb.size; omega
            have M1 : i + 1 ≤ maxLen := by unfold maxLen; omega
            have N1 : (i + 1) * 8 ≤ 140737488355328 := by omega
            have S1 : WB ≤ (wr.alloc (.cells #[.int .i64 (q : Int)] 3)).heap.size := by simp; omega
            go_wp2_with (at_builtin; refine wpList_append_own _ rfl _ _ 24 rfl WB 3 i0 (.int .i64 0) 1 8 Try.underlying24 hi0 hz0 hz1 hz2 rfl (by decide) _ _ _ rfl (hroy.out.alloc _) ⟨wr.heap.size, 0, none⟩ 1 1 [.int .i64 (q : Int)] rfl rfl (cell_one_new _ _ _) (by simp [Value.oneCell']) M1 N1 S1 ?_; intro v' w4' hown' hgrow _; obtain ⟨a9, cap9, rfl⟩ := owns_slice hown')
            have hrow : ∀ j, (Value.slice a3 i c3).ownBlock = some j → WB ≤ j := fun j ej => (hroy.out.lt j ej).1
            have O4 : Hid (w4'.ownsRow WB 3 1 (.slice a9 (i + 1) cap9) (i + 1) ((gone ++ [(q : Int)]).map (Value.int .i64))) := by
              unfold Hid; rw [List.map_append]; exact hown'
            have B4 : Hid (Below WB w4 w4') := (hBWy.out.alloc hyWB _).grown hgrow (by simp; omega) hrow
            have GL : Hid ((gone ++ [(q : Int)]).length = i + 1) := by unfold Hid; rw [List.length_append, hgl.out]; rfl
            clear hown' hgrow hrow M1 N1 S1
            go_wp2
            go_roundw
            case rel => exact ⟨i + 1, gone ++ [(q : Int)], a9, cap9, by omega, by go_num, rfl, GL.out, HO3.out, O4.out, B4.out⟩
            case measure => simp [intOf]; omega
      · obtain rfl : i = l.length := by omega
        go_wp2
        go_ret
        exact ⟨rfl, B.out.trans (hBx.mono B.out.size)⟩
  · clear w0
    go_enter Try.func6, Try.ntmps6
    go_wp2
    go_ret
    exact ⟨rfl, Below.refl _ _⟩

end Go.Proofs.Ytafnmongglhlaaa.fnTransferOut
