/-
  laws.FnTransferSum returns true for every code. No condition.
-/
import Derived.Test.YtafnmongglhlaaaGrp1
import Derived.Test.YtafnmongglhlaaaGrp25
import Derived.Test.YtafnmongglhlaaaGrpS
import Derived.Test.YtafnmongglhlaaaGrpQ
import Derived.Test.YtafnmongglhlaaaGrp6
import Derived.Test.YtafnmongglhlaaaGrp18
namespace Go.Proofs.Ytafnmongglhlaaa.fnTransferSum
open Go.RowKit
set_option linter.unusedVariables false


set_option maxRecDepth 100000 in
set_option maxHeartbeats 2000000 in
/-- The law's walk: it returns true, and writes nothing that was there. -/
theorem walk (a0 : Option Addr) (len0 cap0 : Nat) (z0 : List Int) (w : World) (w0 : IsRow .u8 w a0 len0 cap0 z0) :
    Calls Try.prog 4 #[.slice a0 len0 cap0] w fun e w' => e = .returned (.bool true) ∧ Below w.heap.size w w' := by
  by_cases hl : len0 ≤ 1048576
  · skip
    have hcap := w0.cap
    have HB := Lib.hid w0.bytes; clear w0
    go_enter Try.func4, Try.ntmps4
    go_wp2_with fail
    refine (drawTfSteps_any a0 len0 cap0 _ _ HB.out hcap (by omega)).mono ?_
    rintro e w1 ⟨xs, g, c, lots, al, cl, s, rfl, hp, hpv, hol, hl5, hs4, hb⟩
    have B := Lib.hid hb
    have P := Lib.hid hp
    have HSM := Lib.hid hp.2.1
    have HPV := Lib.hid hpv
    obtain ⟨n, hn⟩ : ∃ n, lots.length = n := ⟨_, rfl⟩
    rw [hn] at hol hl5 ⊢
    have J := Lib.hid (IsInts.of_owned hol (by omega))
    have HN := Lib.hid hn
    have hx12 := (pilesB_pos hpv).2.2.2.2
    clear hb HB hp hol hn hpv
    obtain ⟨v, hv⟩ : ∃ v, transB xs lots (s : Int) = v := ⟨_, rfl⟩
    obtain ⟨l, hL⟩ : ∃ l, tfAll xs lots (s : Int) = l := ⟨_, rfl⟩
    have hl5' : l.length ≤ 5 := by rw [← hL]; exact tfAll_short _ _ _
    have HV := Lib.hid hv
    have HL := Lib.hid hL
    clear hv hL
    have hne : (v != v) = false := by cases v <;> rfl
    have heq : (v == v) = true := by cases v <;> rfl
    go_wp2_with fail
    refine (implSteps_as _ _ _ xs _ n cl lots (s : Int) l v _ P.out.piles HSM.out J.out HV.out HL.out).mono ?_
    rintro e w2 ⟨a1, c1, gs1, rfl, ho, hb⟩
    have P := Lib.hid (P.out.below hb)
    have J := Lib.hid (J.out.below hb)
    have I1 := Lib.hid (ho.is (by omega) (by omega))
    have B := Lib.hid (B.out.trans (hb.mono B.out.size))
    clear hb ho
    go_wp2_with fail
    refine (specSteps_as _ _ _ xs _ n cl lots (s : Int) l v _ P.out.piles HSM.out J.out HV.out HL.out).mono ?_
    rintro e w3 ⟨a2, c2, gs2, rfl, ho, hb⟩
    have P := Lib.hid (P.out.below hb)
    have J := Lib.hid (J.out.below hb)
    have I1 := Lib.hid (I1.out.below hb)
    have I2 := Lib.hid (ho.is (by omega) (by omega))
    have B := Lib.hid (B.out.trans (hb.mono B.out.size))
    clear hb ho
    go_wp2_with fail
    refine (sameSteps_self _ _ _ l _ _ _ I1.out I2.out).mono ?_
    rintro e w4 ⟨rfl, hd⟩
    have hb := hd.below w3.heap.size
    have P := Lib.hid (P.out.below hb)
    have J := Lib.hid (J.out.below hb)
    have I1 := Lib.hid (I1.out.below hb)
    have I2 := Lib.hid (I2.out.below hb)
    have B := Lib.hid (B.out.trans (hb.mono B.out.size))
    clear hb hd
    cases v
    · skip
      go_wp2_with fail
      refine (sameSteps_self _ _ _ l _ _ _ I1.out I2.out).mono ?_
      rintro e w5 ⟨rfl, hd⟩
      have hb := hd.below w4.heap.size
      have P := Lib.hid (P.out.below hb)
      have J := Lib.hid (J.out.below hb)
      have I1 := Lib.hid (I1.out.below hb)
      have I2 := Lib.hid (I2.out.below hb)
      have B := Lib.hid (B.out.trans (hb.mono B.out.size))
      clear hb hd
      go_wp2
      go_ret
      exact ⟨rfl, B.out⟩
    obtain ⟨hlo, hfi, hs12, hsn, hsum⟩ := (transB_iff _ _ _).1 HV.out
    rw [HN.out] at hsn hfi
    have ARG := trans_arg HV.out
    have hS2 : s ≤ 2 := by omega
    have hSn : s ≤ lots.length := by rw [HN.out]; omega
    have GOOD := tf_start ARG hS2 hSn
    have HRUN : Hid (l = tfRun xs lots (quoR (sumL xs) (s : Int)) lots.length (tfStart xs lots.length s)) := by rw [Hid, ← HL.out, tfAll_yes HV.out, Int.toNat_natCast]
    have HTH : Hid (thereL lots (tfG (tfStart xs lots.length s).gs) = lots) := there_start hlo
    have hn1 : 1 ≤ n := by omega
    have hqr := ARG.qpos
    have hqt := ARG.qtop
    have HIN : Hid (∀ t ∈ l, InOk (quoR (sumL xs) (s : Int)) n t) := fun t ht => by have h1 := in_run ARG lots.length _ GOOD t (by rw [← HRUN.out]; exact ht); rw [HN.out] at h1; exact h1
    have HAR := Lib.hid ARG
    have HGD := Lib.hid GOOD
    have HLO := Lib.hid hlo
    have HFI := Lib.hid hfi
    clear ARG GOOD hlo hfi
    obtain ⟨TT, hT⟩ : ∃ TT, sumL xs = TT := ⟨_, rfl⟩
    have HT : Hid (totalL xs = TT) := by unfold Hid totalL; rw [if_pos HPV.out]; exact hT
    obtain ⟨Q, hQ⟩ : ∃ Q, quoR TT (s : Int) = Q := ⟨_, rfl⟩
    have HSS : Hid (SumOk Q (l.drop 0) (TT, 1)) := by have h1 := sum_start HAR.out (by rw [HN.out]; exact fits_mem HFI.out) hS2 hSn lots.length; rw [← HRUN.out, hT, hQ] at h1; exact h1
    have HFS : Hid (∀ t ∈ l, ∀ k, k < n → addOk (fsF (t.1.take k)) (fAt t.1 k) = true) := by have h1 := fs_run HAR.out lots.length _ HGD.out; rw [← HRUN.out, HN.out] at h1; exact h1
    rw [hT, hQ] at HIN hqr hqt
    have HQ := Lib.hid hQ
    clear hT hQ HRUN HGD HTH HAR
    go_wp2_with fail
    refine (implTotal_as _ _ _ xs TT _ P.out.piles HSM.out HT.out).mono ?_
    rintro e w5 ⟨rfl, hb⟩
    have P := Lib.hid (P.out.below hb)
    have J := Lib.hid (J.out.below hb)
    have I1 := Lib.hid (I1.out.below hb)
    have I2 := Lib.hid (I2.out.below hb)
    have B := Lib.hid (B.out.trans (hb.mono B.out.size))
    clear hb
    go_wp2_with fail
    refine (implQuota_as TT (s : Int) Q _ HQ.out).mono ?_
    rintro e w9 ⟨rfl, rfl⟩
    go_wp2_with fail
    refine (implTotal_as _ _ _ xs TT _ P.out.piles HSM.out HT.out).mono ?_
    rintro e w6 ⟨rfl, hb⟩
    have P := Lib.hid (P.out.below hb)
    have J := Lib.hid (J.out.below hb)
    have I1 := Lib.hid (I1.out.below hb)
    have I2 := Lib.hid (I2.out.below hb)
    have B := Lib.hid (B.out.trans (hb.mono B.out.size))
    clear hb
    have hqf : fracB (0 - Q, 1) = true := fracB_of (by show -9999999 ≤ 0 - Q ∧ 0 - Q ≤ 9999999; omega) (by show 1 ≤ (1 : Int) ∧ (1 : Int) ≤ 9999999; omega) (by unfold gcdI; simp)
    have hq0 : decide (0 < Q) = true := decide_eq_true (by omega)
    have hz1 : (0 : Int) - Q = -Q := Int.zero_sub Q
    have hw1 : IntKind.i64.wrap (-Q) = -Q := IntWalk.i64_in _ (by omega)
    have hw2 : IntKind.i64.wrap (0 - Q) = -Q := by rw [hz1]; exact hw1
    clear hqf hz1 P J HT HQ HSM HPV HV
    obtain ⟨sb, hsb⟩ : ∃ sb, w6.heap.size = sb := ⟨_, rfl⟩
    have hT0 : Hid (Two (w6.alloc (.cells #[.int .i64 TT, .int .i64 1] 40)) sb TT 1) := hsb ▸ Two.new w6 TT 1 40
    have hB0 : Hid (Below sb w6 (w6.alloc (.cells #[.int .i64 TT, .int .i64 1] 40))) := hsb ▸ (Below.refl _ _).alloc (Nat.le_refl _) _
    have HSB := Lib.hid hsb
    clear hsb
    go_wp2
    rw [HSB.out]
    go_loopw [12, 13, 14, 15] (fun iv _ _ _ wr => ∃ (i : Nat) (u v : Int), i ≤ l.length ∧ iv = .int .i64 (i : Int) ∧ Hid (SumOk Q (l.drop i) (u, v)) ∧ Hid (Two wr sb u v) ∧ Hid (Below sb w6 wr)) (fun iv _ _ _ _ => l.length - (intOf iv).toNat)
    case atStart => exact ⟨0, TT, 1, Nat.zero_le _, rfl, HSS.out, hT0.out, hB0.out⟩
    case round =>
      clear hT0 hB0 HSS
      rename World => wx
      obtain ⟨i, u, v, hi, rfl, hS, hTw, hB⟩ := hrel
      have hBx : Below w6.heap.size w6 wx := HSB.out.symm ▸ hB.out
      by_cases hlt : i < l.length
      · obtain ⟨⟨cs, x, k⟩, hst⟩ : ∃ st, l[i]? = some st := ⟨_, List.getElem?_eq_getElem hlt⟩
        have hdr : l.drop i = (cs, x, k) :: l.drop (i + 1) := drop_at hst
        have hs := hS.out
        rw [hdr] at hs
        obtain ⟨⟨r1, r2⟩, r3, r4, r5⟩ := hs
        have r2 : fracB (fsF cs) = true := r2
        have r3 : lessF (u, v) (fsF cs) = false := r3
        have r4 : k = 1 → addOk (fsF cs) (0 - Q, 1) = true := r4
        have r5 : SumOk Q (l.drop (i + 1)) (if k = 1 then addR (fsF cs) (0 - Q, 1) else fsF cs) := r5
        obtain ⟨x1, y1, hxy⟩ : ∃ x1 y1, fsF cs = (x1, y1) := ⟨_, _, rfl⟩
        rw [hxy] at r2 r3 r4 r5
        have HLL : Hid (lessB (u, v) (x1, y1) = false) := by unfold Hid lessB; rw [r1, r2, r3]; rfl
        have HK := Lib.hid r4
        have HR5 := Lib.hid r5
        have HXY := Lib.hid hxy
        have hin := HIN.out _ (List.mem_of_getElem? hst)
        have hcl : cs.length = n := hin.len
        have HOK : Hid (∀ k, k < n → addOk (fsF (cs.take k)) (fAt cs k) = true) := HFS.out _ (List.mem_of_getElem? hst)
        have hii : (i : Int) < (l.length : Int) := by omega
        obtain ⟨b1, off1, a4, l4, c4, rfl, hl1, k0, k1, k2, f1⟩ := I1.out.at hst
        obtain rfl : l4 = n := by rw [← hcl]; exact f1.1.symm
        have k2 : w6.cell? ⟨b1, off1 + i * 3 + 2, none⟩ = some (.int .i64 (k : Int)) := k2
        have F1 := Lib.hid (f1.below hBx)
        have K2 := Lib.hid k2
        have m0 := (hBx.cell (p := ⟨b1, off1 + i * 3, none⟩) hl1).trans k0
        have hbs : b1 < sb := by rw [← HSB.out]; exact hl1
        clear hdr r1 r2 r3 r4 r5 hxy hin hcl k0 k1 k2 f1 hst hS
        go_wp2_with fail
        refine (fracSum_as _ l4 c4 cs x1 y1 _ F1.out HOK.out HXY.out).mono ?_
        rintro e w20 ⟨rfl, hb⟩
        have T2 := Lib.hid ((hTw.out.below hb).alloc (.cells #[.int .i64 x1, .int .i64 y1] 40))
        have C2 := Lib.hid (Two.new w20 x1 y1 40)
        have hsz : wx.heap.size ≤ w20.heap.size := hb.size
        have hsx : sb < wx.heap.size := hTw.out.lt
        have B2 : Hid (Below sb w6 (w20.alloc (.cells #[.int .i64 x1, .int .i64 y1] 40))) := (hB.out.trans (hb.mono (by omega))).alloc (by omega) _
        obtain ⟨tl, t0, t1, tf0, tf1⟩ := T2.out
        obtain ⟨cb, hcb⟩ : ∃ cb, w20.heap.size = cb := ⟨_, rfl⟩
        have hne : cb ≠ sb := by omega
        clear hb m0 hBx
        go_wp2_with fail
        refine (implFracLess_as u v x1 y1 false _ HLL.out).mono ?_
        rintro e w21 ⟨rfl, hb⟩
        have T3 := Lib.hid (T2.out.below hb)
        have C3 := Lib.hid (C2.out.below hb)
        have B3 : Hid (Below sb w6 w21) := B2.out.trans (hb.mono (by have := T2.out.lt; omega))
        clear hb tl t0 t1 tf0 tf1 T2 C2 B2
        rw [hcb] at C3
        obtain ⟨tl, t0, t1, tf0, tf1⟩ := T3.out
        obtain ⟨cl', c0, c1, -, -⟩ := C3.out
        have T4 : Hid (Two ((w21.setCell ⟨sb, 0, none⟩ (.int .i64 x1)).setCell ⟨sb, 1, none⟩ (.int .i64 y1)) sb x1 y1) := T3.out.put x1 y1
        have B4 : Hid (Below sb w6 ((w21.setCell ⟨sb, 0, none⟩ (.int .i64 x1)).setCell ⟨sb, 1, none⟩ (.int .i64 y1))) := (B3.out.setCell (Nat.le_refl _) _).setCell (Nat.le_refl _) _
        have k2w := (B4.out.cell (p := ⟨b1, off1 + i * 3 + 2, none⟩) hbs).trans K2.out
        obtain ⟨ul, v0, v1, vf0, vf1⟩ := T4.out
        by_cases hk1 : k = 1
        · have e1 : ((k : Int) == 1) = true := by rw [hk1]; rfl
          obtain ⟨x3, y3, hxy3⟩ : ∃ x3 y3, addR (x1, y1) (-Q, 1) = (x3, y3) := ⟨_, _, rfl⟩
          have HX3 := Lib.hid hxy3
          have HO3 : Hid (addOk (x1, y1) (-Q, 1) = true) := by have h1 := HK.out hk1; rw [Int.zero_sub] at h1; exact h1
          have HR6 : Hid (SumOk Q (l.drop (i + 1)) (x3, y3)) := by have h1 := HR5.out; rw [if_pos hk1, Int.zero_sub, hxy3] at h1; exact h1
          clear hxy3 hk1 HR5 HK
          go_wp2_with fail
          refine (implFracAdd_as x1 y1 (-Q) 1 x3 y3 true _ HX3.out HO3.out).mono ?_
          rintro e w22 ⟨rfl, hb⟩
          have T5 := Lib.hid ((T4.out.below hb).alloc (.cells #[.int .i64 x3, .int .i64 y3] 40))
          have B5 : Hid (Below sb w6 (w22.alloc (.cells #[.int .i64 x3, .int .i64 y3] 40))) := (B4.out.trans (hb.mono (by omega))).alloc (by have := hb.size; omega) _
          have T6 := Lib.hid (T5.out.put x3 y3)
          have B6 : Hid (Below sb w6 (((w22.alloc (.cells #[.int .i64 x3, .int .i64 y3] 40)).setCell ⟨sb, 0, none⟩ (.int .i64 x3)).setCell ⟨sb, 1, none⟩ (.int .i64 y3))) := (B5.out.setCell (Nat.le_refl _) _).setCell (Nat.le_refl _) _
          clear hb tl t0 t1 tf0 tf1 ul v0 v1 vf0 vf1 T4 B4 k2w
          obtain ⟨ul, v0, v1, vf0, vf1⟩ := T5.out
          go_wp2
          go_roundw
          case rel => exact ⟨i + 1, x3, y3, by omega, by go_num, HR6.out, T6.out, B6.out⟩
          case measure => simp [intOf]; omega
        · have e1 : ((k : Int) == 1) = false := by simp; omega
          have HR6 : Hid (SumOk Q (l.drop (i + 1)) (x1, y1)) := by have h1 := HR5.out; rw [if_neg hk1] at h1; exact h1
          clear hk1 HR5 HK
          go_wp2
          go_roundw
          case rel => exact ⟨i + 1, x1, y1, by omega, by go_num, HR6.out, T4.out, B4.out⟩
          case measure => simp [intOf]; omega
      · obtain rfl : i = l.length := by omega
        go_wp2
        go_ret
        exact ⟨rfl, B.out.trans (hBx.mono B.out.size)⟩
  · clear w0
    go_enter Try.func4, Try.ntmps4
    go_wp2
    go_ret
    exact ⟨rfl, Below.refl _ _⟩

end Go.Proofs.Ytafnmongglhlaaa.fnTransferSum
