/-
  laws.FnTransferIn returns true for every code. No condition.
-/
import Derived.Test.YtafnmongglhlaaaGrp1
import Derived.Test.YtafnmongglhlaaaGrp25
import Derived.Test.YtafnmongglhlaaaGrpS
import Derived.Test.YtafnmongglhlaaaGrpQ
import Derived.Test.YtafnmongglhlaaaGrp6
import Derived.Test.YtafnmongglhlaaaGrp18
namespace Go.Proofs.Ytafnmongglhlaaa.fnTransferIn
open Go.RowKit
set_option linter.unusedVariables false


set_option maxRecDepth 100000 in
set_option maxHeartbeats 2000000 in
/-- The law's walk: it returns true, and writes nothing that was there. -/
theorem walk (a0 : Option Addr) (len0 cap0 : Nat) (z0 : List Int) (w : World) (w0 : IsRow .u8 w a0 len0 cap0 z0) :
    Calls Try.prog 5 #[.slice a0 len0 cap0] w fun e w' => e = .returned (.bool true) ∧ Below w.heap.size w w' := by
  by_cases hl : len0 ≤ 1048576
  · skip
    have hcap := w0.cap
    have HB := Lib.hid w0.bytes; clear w0
    go_enter Try.func5, Try.ntmps5
    go_wp2_with fail
    refine (drawTfSteps_any a0 len0 cap0 _ _ HB.out hcap (by omega)).mono ?_
    rintro e w1 ⟨xs, g, c, lots, al, cl, s, rfl, hp, hpv, hol, hl5, hs4, hb⟩
    have B := Lib.hid hb
    have P := Lib.hid hp
    have HSM := Lib.hid hp.2.1
    have HPV := Lib.hid hpv
    obtain ⟨n, hn⟩ : ∃ n, lots.length = n := ⟨_, rfl⟩
    rw [hn] at hol hl5 ⊢
    have J := Lib.hid (IsInts.of_owned hol (by omega))
    have HN := Lib.hid hn
    have hx12 := (pilesB_pos hpv).2.2.2.2
    clear hb HB hp hol hn hpv
    obtain ⟨v, hv⟩ : ∃ v, transB xs lots (s : Int) = v := ⟨_, rfl⟩
    obtain ⟨l, hL⟩ : ∃ l, tfAll xs lots (s : Int) = l := ⟨_, rfl⟩
    have hl5' : l.length ≤ 5 := by rw [← hL]; exact tfAll_short _ _ _
    have HV := Lib.hid hv
    have HL := Lib.hid hL
    clear hv hL
    have hne : (v != v) = false := by cases v <;> rfl
    have heq : (v == v) = true := by cases v <;> rfl
    go_wp2_with fail
    refine (implSteps_as _ _ _ xs _ n cl lots (s : Int) l v _ P.out.piles HSM.out J.out HV.out HL.out).mono ?_
    rintro e w2 ⟨a1, c1, gs1, rfl, ho, hb⟩
    have P := Lib.hid (P.out.below hb)
    have J := Lib.hid (J.out.below hb)
    have I1 := Lib.hid (ho.is (by omega) (by omega))
    have B := Lib.hid (B.out.trans (hb.mono B.out.size))
    clear hb ho
    go_wp2_with fail
    refine (specSteps_as _ _ _ xs _ n cl lots (s : Int) l v _ P.out.piles HSM.out J.out HV.out HL.out).mono ?_
    rintro e w3 ⟨a2, c2, gs2, rfl, ho, hb⟩
    have P := Lib.hid (P.out.below hb)
    have J := Lib.hid (J.out.below hb)
    have I1 := Lib.hid (I1.out.below hb)
    have I2 := Lib.hid (ho.is (by omega) (by omega))
    have B := Lib.hid (B.out.trans (hb.mono B.out.size))
    clear hb ho
    go_wp2_with fail
    refine (sameSteps_self _ _ _ l _ _ _ I1.out I2.out).mono ?_
    rintro e w4 ⟨rfl, hd⟩
    have hb := hd.below w3.heap.size
    have P := Lib.hid (P.out.below hb)
    have J := Lib.hid (J.out.below hb)
    have I1 := Lib.hid (I1.out.below hb)
    have I2 := Lib.hid (I2.out.below hb)
    have B := Lib.hid (B.out.trans (hb.mono B.out.size))
    clear hb hd
    cases v
    · skip
      go_wp2_with fail
      refine (sameSteps_self _ _ _ l _ _ _ I1.out I2.out).mono ?_
      rintro e w5 ⟨rfl, hd⟩
      have hb := hd.below w4.heap.size
      have P := Lib.hid (P.out.below hb)
      have J := Lib.hid (J.out.below hb)
      have I1 := Lib.hid (I1.out.below hb)
      have I2 := Lib.hid (I2.out.below hb)
      have B := Lib.hid (B.out.trans (hb.mono B.out.size))
      clear hb hd
      go_wp2
      go_ret
      exact ⟨rfl, B.out⟩
    obtain ⟨hlo, hfi, hs12, hsn, hsum⟩ := (transB_iff _ _ _).1 HV.out
    rw [HN.out] at hsn hfi
    have ARG := trans_arg HV.out
    have hS2 : s ≤ 2 := by omega
    have hSn : s ≤ lots.length := by rw [HN.out]; omega
    have GOOD := tf_start ARG hS2 hSn
    have HRUN : Hid (l = tfRun xs lots (quoR (sumL xs) (s : Int)) lots.length (tfStart xs lots.length s)) := by rw [Hid, ← HL.out, tfAll_yes HV.out, Int.toNat_natCast]
    have HTH : Hid (thereL lots (tfG (tfStart xs lots.length s).gs) = lots) := there_start hlo
    have hn1 : 1 ≤ n := by omega
    have hqr := ARG.qpos
    have hqt := ARG.qtop
    have HIN : Hid (∀ t ∈ l, InOk (quoR (sumL xs) (s : Int)) n t) := fun t ht => by have h1 := in_run ARG lots.length _ GOOD t (by rw [← HRUN.out]; exact ht); rw [HN.out] at h1; exact h1
    have HAR := Lib.hid ARG
    have HGD := Lib.hid GOOD
    have HLO := Lib.hid hlo
    have HFI := Lib.hid hfi
    clear ARG GOOD hlo hfi
    obtain ⟨TT, hT⟩ : ∃ TT, totalL xs = TT := ⟨_, rfl⟩
    have HT := Lib.hid hT
    obtain ⟨Q, hQ⟩ : ∃ Q, quoR (sumL xs) (s : Int) = Q := ⟨_, rfl⟩
    have hTQ : quoR TT (s : Int) = Q := by rw [← hQ, ← hT]; unfold totalL; rw [if_pos HPV.out]
    rw [hQ] at HIN hqr hqt
    have HQ := Lib.hid hTQ
    clear hT hQ hTQ HRUN HGD HTH HAR
    go_wp2_with fail
    refine (implTotal_as _ _ _ xs TT _ P.out.piles HSM.out HT.out).mono ?_
    rintro e w5 ⟨rfl, hb⟩
    have P := Lib.hid (P.out.below hb)
    have J := Lib.hid (J.out.below hb)
    have I1 := Lib.hid (I1.out.below hb)
    have I2 := Lib.hid (I2.out.below hb)
    have B := Lib.hid (B.out.trans (hb.mono B.out.size))
    clear hb
    go_wp2_with fail
    refine (implQuota_as TT (s : Int) Q _ HQ.out).mono ?_
    rintro e w9 ⟨rfl, rfl⟩
    have HQV : Hid (fracB (Q, 1) = true) := fracB_of (by show -9999999 ≤ Q ∧ Q ≤ 9999999; omega) (by show 1 ≤ (1 : Int) ∧ (1 : Int) ≤ 9999999; omega) (by unfold gcdI; simp)
    go_wp2
    obtain ⟨WQ, hWQ⟩ : ∃ WQ, w5.alloc (.cells #[.int .i64 Q, .int .i64 1] 40) = WQ := ⟨_, rfl⟩
    rw [hWQ]
    have TQ : Hid (Two WQ w5.heap.size Q 1) := by rw [← hWQ]; exact Two.new _ _ _ _
    have BQ : Hid (Below w5.heap.size w5 WQ) := by rw [← hWQ]; exact (Below.refl _ _).alloc (Nat.le_refl _) _
    have I3 := Lib.hid (I1.out.below BQ.out)
    have BQ2 := Lib.hid (B.out.trans (BQ.out.mono B.out.size))
    obtain ⟨qb, hqb⟩ : ∃ qb, w5.heap.size = qb := ⟨_, rfl⟩
    rw [hqb] at TQ ⊢
    clear hWQ hqb BQ B I1 I2 P J HT HQ HSM HPV HV
    go_loopw [11, 12, 13] (fun iv _ _ wr => ∃ i : Nat, i ≤ l.length ∧ iv = .int .i64 (i : Int) ∧ Hid (Below WQ.heap.size WQ wr)) (fun iv _ _ _ => l.length - (intOf iv).toNat)
    case atStart => exact ⟨0, Nat.zero_le _, rfl, Below.refl _ _⟩
    case round =>
      rename World => wx
      obtain ⟨i, hi, rfl, hB⟩ := hrel
      have hBx := hB.out
      by_cases hlt : i < l.length
      · obtain ⟨⟨cs, x, k⟩, hst⟩ : ∃ st, l[i]? = some st := ⟨_, List.getElem?_eq_getElem hlt⟩
        have hin := HIN.out _ (List.mem_of_getElem? hst)
        have hcl : cs.length = n := hin.len
        have hwr : 0 ≤ x ∧ x < (n : Int) := hin.who
        have HFR : Hid (∀ j, j < n → fracB (fAt cs j) = true) := hin.fr
        have hone : k = 1 ↔ lessF (tfC cs x) (Q, 1) = false := hin.one
        have HMO : Hid (k ≠ 2 → ∀ j, j < n → lessF (tfC cs x) (fAt cs j) = false) := hin.most
        have HOU : Hid (k = 2 → ∀ j, j < n → lessF (fAt cs j) (Q, 1) = true) := hin.out
        have hii : (i : Int) < (l.length : Int) := by omega
        obtain ⟨q, rfl⟩ := Int.eq_ofNat_of_zero_le hwr.1
        have hqn : q < n := by omega
        have hqi : (q : Int) < (n : Int) := by omega
        rw [tfC_nat] at hone HMO
        obtain ⟨b1, off1, a4, l4, c4, rfl, hl1, k0, k1, k2, f1⟩ := I3.out.at hst
        obtain rfl : l4 = n := by rw [← hcl]; exact f1.1.symm
        have k1 : WQ.cell? ⟨b1, off1 + i * 3 + 1, none⟩ = some (.int .i64 (q : Int)) := k1
        have k2 : WQ.cell? ⟨b1, off1 + i * 3 + 2, none⟩ = some (.int .i64 (k : Int)) := k2
        obtain ⟨x1, y1, hx⟩ : ∃ x1 y1, fAt cs q = (x1, y1) := ⟨_, _, rfl⟩
        have hfq := HFR.out q hqn
        rw [hx] at hone HMO hfq
        obtain ⟨v1, hv1⟩ : ∃ v1, ((k : Int) == 1) = v1 := ⟨_, rfl⟩
        have HV1 : Hid (lessB (x1, y1) (Q, 1) = !v1) := by
          unfold Hid lessB
          rw [hfq, HQV.out]
          cases hv : v1
          · have : ¬ k = 1 := by rw [hv] at hv1; intro e; subst e; cases hv1
            cases hl : lessF (x1, y1) (Q, 1)
            · exact absurd (hone.2 hl) this
            · rfl
          · have : k = 1 := by rw [hv] at hv1; have := beq_iff_eq.1 hv1; omega
            rw [hone.1 this]; rfl
        have hcc : (!((k : Int) == 1) == v1) = false := by rw [hv1]; cases v1 <;> rfl
        have hvv : (v1 != v1) = false := by cases v1 <;> rfl
        have hnn : (!(!v1)) = v1 := by cases v1 <;> rfl
        obtain ⟨fb, fo, rfl, hfb, d0, d1⟩ := f1.at hqn
        rw [hx] at d0 d1
        have F1 := Lib.hid f1
        have K0 := Lib.hid k0
        have K1 := Lib.hid k1
        have K2 := Lib.hid k2
        have m0 := (hBx.cell (p := ⟨b1, off1 + i * 3, none⟩) hl1).trans k0
        have m1 := (hBx.cell (p := ⟨b1, off1 + i * 3 + 1, none⟩) hl1).trans k1
        have e0 := (hBx.cell (p := ⟨fb, fo + q * 2, none⟩) hfb).trans d0
        have e1 := (hBx.cell (p := ⟨fb, fo + q * 2 + 1, none⟩) hfb).trans d1
        have hfq2 := Lib.hid hfq
        clear hin f1 hst k0 k1 k2 d0 d1 hv1 hone hfq
        go_wp2_with fail
        have q0 := World.new_ne wx ⟨b1, off1 + i * 3, none⟩ m0
        have q1 := World.new_ne wx ⟨b1, off1 + i * 3 + 1, none⟩ m1
        have q2 := World.new_ne wx ⟨fb, fo + q * 2, none⟩ e0
        have q3 := World.new_ne wx ⟨fb, fo + q * 2 + 1, none⟩ e1
        go_region_held3 (fun w' => w'.cell? ⟨b1, off1 + i * 3, none⟩ = some (.slice (some ⟨fb, fo, none⟩) l4 c4) ∧ w'.cell? ⟨b1, off1 + i * 3 + 1, none⟩ = some (.int .i64 (q : Int)) ∧ w'.cell? ⟨fb, fo + q * 2, none⟩ = some (.int .i64 x1) ∧ w'.cell? ⟨fb, fo + q * 2 + 1, none⟩ = some (.int .i64 y1)) (go_keep) (fail)
        obtain ⟨WO, hWO⟩ : ∃ WO, (wx.alloc (.cells #[.int .i64 x1, .int .i64 y1] 40)).drew = WO := ⟨_, rfl⟩
        rw [hWO]
        rename_i hh
        clear hh q0 q1 q2 q3
        have TO : Two WO wx.heap.size x1 y1 := by rw [← hWO]; exact (Two.new wx x1 y1 40).below (Below.refl _ _).drew
        have BO : Below wx.heap.size wx WO := by rw [← hWO]; exact ((Below.refl _ _).alloc (Nat.le_refl _) _).drew
        obtain ⟨ob, hob⟩ : ∃ ob, wx.heap.size = ob := ⟨_, rfl⟩
        rw [hob] at TO
        simp only [hob]
        have hBO : Hid (Below WQ.heap.size WQ WO) := hBx.trans (BO.mono hBx.size)
        have TO2 := Lib.hid TO
        have TQO := TQ.out.below hBO.out
        have m2 := (hBO.out.cell (p := ⟨b1, off1 + i * 3 + 2, none⟩) hl1).trans K2.out
        have hlo := Nat.lt_of_lt_of_le hl1 hBO.out.size
        have u2 : ∀ u : Beh WO, u.w.cell? ⟨b1, off1 + i * 3 + 2, none⟩ = _ := Beh.cell m2 hlo
        have u3 : ∀ u : Beh WO, u.w.cell? ⟨ob, 0, none⟩ = _ := Beh.cell TO.c0 TO.lt
        have u4 : ∀ u : Beh WO, u.w.cell? ⟨ob, 1, none⟩ = _ := Beh.cell TO.c1 TO.lt
        have u5 : ∀ u : Beh WO, u.w.cell? ⟨qb, 0, none⟩ = _ := Beh.cell TQO.c0 TQO.lt
        have u6 : ∀ u : Beh WO, u.w.cell? ⟨qb, 1, none⟩ = _ := Beh.cell TQO.c1 TQO.lt
        clear hWO BO TO TQO m2 hBx hB m0 m1 e0 e1 hlo
        go_wp2_with fail
        refine wp_region_below (by kernel_rfl) (by kernel_rfl) ?_
        repeat (go_big_quiet_step (first | (go_at_call 22; exact Calls.beh (implFracLess_as x1 y1 Q 1 (!v1) _ HV1.out))))
        refine wpQuiet_nil ?_
        rintro w8 ⟨⟨_, hb8'⟩, he⟩
        have hb8 : Below WO.heap.size WO w8 := by rw [he]; exact hb8'
        have B8 : Hid (Below WQ.heap.size WQ w8) := hBO.out.trans (hb8.mono hBO.out.size)
        have T8 := Lib.hid (TO2.out.below hb8)
        have k0w := (B8.out.cell (p := ⟨b1, off1 + i * 3, none⟩) hl1).trans K0.out
        clear hb8 hb8' he u2 u3 u4 u5 u6 TO2 hBO
        go_wp2
        clear hcc hvv hnn
        go_loopw [13] (fun jv wr => ∃ j : Nat, j ≤ l4 ∧ jv = .int .i64 (j : Int) ∧ Below w8.heap.size w8 wr) (fun jv _ => l4 - (intOf jv).toNat)
        case atStart => exact ⟨0, Nat.zero_le _, rfl, Below.refl _ _⟩
        case round =>
          clear k0w
          obtain ⟨j, hj, rfl, hb⟩ := hrel
          have hBy := B8.out.trans (hb.mono B8.out.size)
          have k0w := (hBy.cell (p := ⟨b1, off1 + i * 3, none⟩) hl1).trans K0.out
          by_cases hjt : j < l4
          · have hji : (j : Int) < (l4 : Int) := by omega
            have k2w := (hBy.cell (p := ⟨b1, off1 + i * 3 + 2, none⟩) hl1).trans K2.out
            have hlw := Nat.lt_of_lt_of_le hl1 hBy.size
            have TOw := T8.out.below hb
            have TQw := TQ.out.below hBy
            obtain ⟨fb', fo', he, hfbw, c0, c1⟩ := (F1.out.below hBy).at hjt
            injection he with he
            injection he with he1 he2 _
            subst he1
            subst he2
            obtain ⟨x2, y2, hy⟩ : ∃ x2 y2, fAt cs j = (x2, y2) := ⟨_, _, rfl⟩
            have hfj := HFR.out j hjt
            have hmo := fun e => HMO.out e j hjt
            have hou := fun e => HOU.out e j hjt
            rw [hy] at c0 c1 hfj hmo hou
            have HFJ := Lib.hid hfj
            have HMJ := Lib.hid hmo
            have HOJ := Lib.hid hou
            have u0 : ∀ u : Beh wr, u.w.cell? ⟨b1, off1 + i * 3, none⟩ = _ := Beh.cell k0w hlw
            have u2 : ∀ u : Beh wr, u.w.cell? ⟨b1, off1 + i * 3 + 2, none⟩ = _ := Beh.cell k2w hlw
            have u3 : ∀ u : Beh wr, u.w.cell? ⟨fb, fo + j * 2, none⟩ = _ := Beh.cell c0 hfbw
            have u4 : ∀ u : Beh wr, u.w.cell? ⟨fb, fo + j * 2 + 1, none⟩ = _ := Beh.cell c1 hfbw
            have u5 : ∀ u : Beh wr, u.w.cell? ⟨ob, 0, none⟩ = _ := Beh.cell TOw.c0 TOw.lt
            have u6 : ∀ u : Beh wr, u.w.cell? ⟨ob, 1, none⟩ = _ := Beh.cell TOw.c1 TOw.lt
            have u7 : ∀ u : Beh wr, u.w.cell? ⟨qb, 0, none⟩ = _ := Beh.cell TQw.c0 TQw.lt
            have u8 : ∀ u : Beh wr, u.w.cell? ⟨qb, 1, none⟩ = _ := Beh.cell TQw.c1 TQw.lt
            clear k2w c0 c1 TOw TQw hy hfj hmo hou
            by_cases hk2 : k = 2
            · have e2 : ((k : Int) == 2) = true := by rw [hk2]; rfl
              have n2 : ((k : Int) != 2) = false := by rw [hk2]; rfl
              have HLL : Hid (lessB (x2, y2) (Q, 1) = true) := by unfold Hid lessB; rw [HFJ.out, HQV.out, HOJ.out hk2]; rfl
              clear hk2
              go_wp2_with fail
              refine wp_region_below (by kernel_rfl) (by kernel_rfl) ?_
              repeat (go_big_quiet_step (first | (go_at_call 22; exact Calls.beh (implFracLess_as x2 y2 Q 1 true _ HLL.out))))
              refine wpQuiet_nil ?_
              rintro w10 ⟨⟨_, hb9'⟩, he⟩
              have hb9 : Below wr.heap.size wr w10 := by rw [he]; exact hb9'
              have hB9 := hb.trans (hb9.mono hb.size)
              clear hb9 hb9' he u0 u2 u3 u4 u5 u6 u7 u8
              go_wp2
              go_roundw
              case rel => exact ⟨j + 1, by omega, by go_num, hB9⟩
              case measure => simp [intOf]; omega
            · have e2 : ((k : Int) == 2) = false := by simp; omega
              have n2 : ((k : Int) != 2) = true := by simp; omega
              have HLL : Hid (lessB (x1, y1) (x2, y2) = false) := by unfold Hid lessB; rw [hfq2.out, HFJ.out, HMJ.out hk2]; rfl
              clear hk2
              go_wp2_with fail
              refine wp_region_below (by kernel_rfl) (by kernel_rfl) ?_
              repeat (go_big_quiet_step (first | (go_at_call 22; exact Calls.beh (implFracLess_as x1 y1 x2 y2 false _ HLL.out))))
              refine wpQuiet_nil ?_
              rintro w10 ⟨⟨_, hb9'⟩, he⟩
              have hb9 : Below wr.heap.size wr w10 := by rw [he]; exact hb9'
              have hB9 := hb.trans (hb9.mono hb.size)
              clear hb9 hb9' he u0 u2 u3 u4 u5 u6 u7 u8
              go_wp2
              go_roundw
              case rel => exact ⟨j + 1, by omega, by go_num, hB9⟩
              case measure => simp [intOf]; omega
          · obtain rfl : j = l4 := by omega
            have hBW : Hid (Below WQ.heap.size WQ wr) := hBy
            go_wp2
            go_roundw
            case rel => exact ⟨i + 1, by omega, by go_num, hBW.out⟩
            case measure => simp [intOf]; omega
      · obtain rfl : i = l.length := by omega
        go_wp2
        go_ret
        exact ⟨rfl, BQ2.out.trans (hBx.mono BQ2.out.size)⟩
  · clear w0
    go_enter Try.func5, Try.ntmps5
    go_wp2
    go_ret
    exact ⟨rfl, Below.refl _ _⟩

end Go.Proofs.Ytafnmongglhlaaa.fnTransferIn
