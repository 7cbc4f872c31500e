/-
  laws.FnTransfer returns true for every code. No condition.
-/
import Derived.Test.YtafnmongglhlaaaGrp1
import Derived.Test.YtafnmongglhlaaaGrp25
import Derived.Test.YtafnmongglhlaaaGrpS
import Derived.Test.YtafnmongglhlaaaGrpQ
namespace Go.Proofs.Ytafnmongglhlaaa.fnTransfer
open Go.RowKit
set_option linter.unusedVariables false


set_option maxRecDepth 100000 in
set_option maxHeartbeats 2000000 in
/-- The law's walk: it returns true, and writes nothing that was there. -/
theorem walk (a0 : Option Addr) (len0 cap0 : Nat) (z0 : List Int) (w : World) (w0 : IsRow .u8 w a0 len0 cap0 z0) :
    Calls Try.prog 3 #[.slice a0 len0 cap0] w fun e w' => e = .returned (.bool true) ∧ Below w.heap.size w w' := by
  by_cases hl : len0 ≤ 1048576
  · skip
    have hcap := w0.cap
    have HB := Lib.hid w0.bytes; clear w0
    go_enter Try.func3, Try.ntmps3
    go_wp2_with fail
    refine (drawTfSteps_any a0 len0 cap0 _ _ HB.out hcap (by omega)).mono ?_
    rintro e w1 ⟨xs, g, c, lots, al, cl, s, rfl, hp, hpv, hol, hl5, hs4, hb⟩
    have B := Lib.hid hb
    have P := Lib.hid hp
    have HSM := Lib.hid hp.2.1
    have HPV := Lib.hid hpv
    obtain ⟨n, hn⟩ : ∃ n, lots.length = n := ⟨_, rfl⟩
    rw [hn] at hol hl5 ⊢
    have J := Lib.hid (IsInts.of_owned hol (by omega))
    have HN := Lib.hid hn
    have hx12 := (pilesB_pos hpv).2.2.2.2
    clear hb HB hp hol hn hpv
    obtain ⟨v, hv⟩ : ∃ v, transB xs lots (s : Int) = v := ⟨_, rfl⟩
    obtain ⟨l, hL⟩ : ∃ l, tfAll xs lots (s : Int) = l := ⟨_, rfl⟩
    have hl5' : l.length ≤ 5 := by rw [← hL]; exact tfAll_short _ _ _
    have HV := Lib.hid hv
    have HL := Lib.hid hL
    clear hv hL
    have hne : (v != v) = false := by cases v <;> rfl
    have heq : (v == v) = true := by cases v <;> rfl
    go_wp2_with fail
    refine (implSteps_as _ _ _ xs _ n cl lots (s : Int) l v _ P.out.piles HSM.out J.out HV.out HL.out).mono ?_
    rintro e w2 ⟨a1, c1, gs1, rfl, ho, hb⟩
    have P := Lib.hid (P.out.below hb)
    have J := Lib.hid (J.out.below hb)
    have I1 := Lib.hid (ho.is (by omega) (by omega))
    have B := Lib.hid (B.out.trans (hb.mono B.out.size))
    clear hb ho
    go_wp2_with fail
    refine (specSteps_as _ _ _ xs _ n cl lots (s : Int) l v _ P.out.piles HSM.out J.out HV.out HL.out).mono ?_
    rintro e w3 ⟨a2, c2, gs2, rfl, ho, hb⟩
    have P := Lib.hid (P.out.below hb)
    have J := Lib.hid (J.out.below hb)
    have I1 := Lib.hid (I1.out.below hb)
    have I2 := Lib.hid (ho.is (by omega) (by omega))
    have B := Lib.hid (B.out.trans (hb.mono B.out.size))
    clear hb ho
    go_wp2_with fail
    refine (sameSteps_self _ _ _ l _ _ _ I1.out I2.out).mono ?_
    rintro e w4 ⟨rfl, hd⟩
    have hb := hd.below w3.heap.size
    have P := Lib.hid (P.out.below hb)
    have J := Lib.hid (J.out.below hb)
    have I1 := Lib.hid (I1.out.below hb)
    have I2 := Lib.hid (I2.out.below hb)
    have B := Lib.hid (B.out.trans (hb.mono B.out.size))
    clear hb hd
    cases v
    · skip
      go_wp2_with fail
      refine (sameSteps_self _ _ _ l _ _ _ I1.out I2.out).mono ?_
      rintro e w5 ⟨rfl, hd⟩
      have hb := hd.below w4.heap.size
      have P := Lib.hid (P.out.below hb)
      have J := Lib.hid (J.out.below hb)
      have I1 := Lib.hid (I1.out.below hb)
      have I2 := Lib.hid (I2.out.below hb)
      have B := Lib.hid (B.out.trans (hb.mono B.out.size))
      clear hb hd
      go_wp2
      go_ret
      exact ⟨rfl, B.out⟩
    obtain ⟨hlo, hfi, hs12, hsn, hsum⟩ := (transB_iff _ _ _).1 HV.out
    rw [HN.out] at hsn hfi
    have ARG := trans_arg HV.out
    have hS2 : s ≤ 2 := by omega
    have hSn : s ≤ lots.length := by rw [HN.out]; omega
    have GOOD := tf_start ARG hS2 hSn
    have HRUN : Hid (l = tfRun xs lots (quoR (sumL xs) (s : Int)) lots.length (tfStart xs lots.length s)) := by rw [Hid, ← HL.out, tfAll_yes HV.out, Int.toNat_natCast]
    have HTH : Hid (thereL lots (tfG (tfStart xs lots.length s).gs) = lots) := there_start hlo
    have hn1 : 1 ≤ n := by omega
    have hqr := ARG.qpos
    have hqt := ARG.qtop
    have HIN : Hid (∀ t ∈ l, InOk (quoR (sumL xs) (s : Int)) n t) := fun t ht => by have h1 := in_run ARG lots.length _ GOOD t (by rw [← HRUN.out]; exact ht); rw [HN.out] at h1; exact h1
    have HAR := Lib.hid ARG
    have HGD := Lib.hid GOOD
    have HLO := Lib.hid hlo
    have HFI := Lib.hid hfi
    clear ARG GOOD hlo hfi
    obtain ⟨win, hwin⟩ : ∃ win, tfWin l = win := ⟨_, rfl⟩
    have HWIN : Hid (tfWinners xs lots (s : Int) = win) := by unfold Hid tfWinners; rw [HL.out]; exact hwin
    have hwl : win.length = s := by rw [← hwin, HRUN.out]; exact win_count HAR.out lots.length _ HGD.out (by rw [HTH.out]; exact Nat.le_refl _)
    have hou : OutOk n l [] := by have h1 := out_run HAR.out lots.length _ [] HGD.out (fun z hz => by have h2 := (there_mem.1 (show z ∈ thereL lots (tfG (tfStart xs lots.length s).gs) by rw [HTH.out]; exact hz)).2; rw [h2]; simp); rw [← HRUN.out, HN.out] at h1; exact h1
    have HSO : Hid (SeatOk n l [] win) := by rw [← hwin]; exact seat_of l [] HIN.out hou
    have HWL := Lib.hid hwl
    clear hwin hou HRUN HGD HTH HAR hwl
    go_wp2_with fail
    refine (implWinners_as _ _ _ xs _ n cl lots (s : Int) win _ P.out.piles HSM.out J.out HWIN.out).mono ?_
    rintro e w5 ⟨a3, c3, rfl, ho, hb⟩
    have P := Lib.hid (P.out.below hb)
    have J := Lib.hid (J.out.below hb)
    have I1 := Lib.hid (I1.out.below hb)
    have I2 := Lib.hid (I2.out.below hb)
    have I3 := Lib.hid (IsInts.of_owned ho (by have := HWL.out; omega))
    have B := Lib.hid (B.out.trans (hb.mono B.out.size))
    clear hb ho
    obtain ⟨i0, hi0, hz0, hz1, hz2⟩ := info_parts int_info
    obtain ⟨WB, hWB⟩ : ∃ WB, w5.heap.size = WB := ⟨_, rfl⟩
    have hE0 := Lib.hid (World.ownsRow_lit (base := WB) (e := 3) (size := 1) w5 #[] 0 (by omega) (by unfold maxLen; omega) rfl)
    have hBE : Hid (Below WB w5 (w5.alloc (.cells #[] 3))) := by subst hWB; exact (Below.refl _ _).alloc (Nat.le_refl _) _
    have HWB := Lib.hid hWB
    clear hWB P HSM HPV HV HL HWIN
    go_wp2
    go_loopw [11, 12, 13] (fun gv kv iv wr => ∃ (i k : Nat) (seen : List Int) (a4 : Option Addr) (c4 : Nat), i ≤ l.length ∧ k ≤ win.length ∧ iv = .int .i64 (i : Int) ∧ kv = .int .i64 (k : Int) ∧ gv = .slice a4 i c4 ∧ Hid (seen.length = i) ∧ Hid (SeatOk n (l.drop i) seen (win.drop k)) ∧ Hid (wr.ownsRow WB 3 1 (.slice a4 i c4) i (seen.map (Value.int .i64))) ∧ Hid (Below WB w5 wr)) (fun _ _ iv _ => l.length - (intOf iv).toNat)
    case atStart => exact ⟨0, 0, [], _, _, Nat.zero_le _, Nat.zero_le _, rfl, rfl, rfl, rfl, HSO.out, hE0.out, hBE.out⟩
    case round =>
      clear hE0 hBE HSO
      rename World => wx
      obtain ⟨i, k, seen, a4, c4, hi, hk, rfl, rfl, rfl, hgl, hO, hro, hB⟩ := hrel
      have hBx : Below w5.heap.size w5 wx := HWB.out.symm ▸ hB.out
      have hxWB : WB ≤ wx.heap.size := by have := hBx.size; have := HWB.out; omega
      by_cases hlt : i < l.length
      · obtain ⟨⟨cs, x, t⟩, hst⟩ : ∃ st, l[i]? = some st := ⟨_, List.getElem?_eq_getElem hlt⟩
        have hdr : l.drop i = (cs, x, t) :: l.drop (i + 1) := drop_at hst
        have ho := hO.out
        rw [hdr] at ho
        obtain ⟨hwr, hns, hr⟩ := ho
        have hwr : 0 ≤ x ∧ x < (n : Int) := hwr
        have HNS : Hid (hasB seen x = false) := by unfold Hid hasB; simpa using hns
        have HR : Hid (if t = 2 then SeatOk n (l.drop (i + 1)) (seen ++ [x]) (win.drop k) else ∃ win', win.drop k = x :: win' ∧ SeatOk n (l.drop (i + 1)) (seen ++ [x]) win') := hr
        have hii : (i : Int) < (l.length : Int) := by omega
        obtain ⟨q, rfl⟩ := Int.eq_ofNat_of_zero_le hwr.1
        have hqn : q < n := by omega
        have hqi : (q : Int) < (n : Int) := by omega
        have hq0 : decide ((q : Int) < 0) = false := decide_eq_false (by omega)
        have hqn2 : decide ((n : Int) ≤ (q : Int)) = false := decide_eq_false (by omega)
        obtain ⟨b1, off1, a6, l6, c6, rfl, hl1, k0, k1, k2, f1⟩ := I1.out.at hst
        have k1 : w5.cell? ⟨b1, off1 + i * 3 + 1, none⟩ = some (.int .i64 (q : Int)) := k1
        have k2 : w5.cell? ⟨b1, off1 + i * 3 + 2, none⟩ = some (.int .i64 (t : Int)) := k2
        have K1 := Lib.hid k1
        have K2 := Lib.hid k2
        have m1 := (hBx.cell (p := ⟨b1, off1 + i * 3 + 1, none⟩) hl1).trans k1
        have ROW := Lib.hid (IsInts.of_owned hro.out (by omega))
        clear hdr hst hO hwr hns hr k0 k1 k2 f1
        go_wp2_with fail
        refine (hasInt_as _ i c4 seen (q : Int) false _ ROW.out HNS.out).mono ?_
        rintro e w20 ⟨rfl, rfl⟩
        have M1 : i + 1 ≤ maxLen := by unfold maxLen; omega
        have N1 : (i + 1) * 8 ≤ 140737488355328 := by omega
        have S1 : WB ≤ (wx.alloc (.cells #[.int .i64 (q : Int)] 3)).heap.size := by simp; omega
        by_cases ht : t = 2
        · have e2 : ((t : Int) != 2) = false := by rw [ht]; rfl
          have HR6 : Hid (SeatOk n (l.drop (i + 1)) (seen ++ [(q : Int)]) (win.drop k)) := by have h1 := HR.out; rw [if_pos ht] at h1; exact h1
          clear ht HR
          go_wp2_with (at_builtin; refine wpList_append_own _ rfl _ _ 24 rfl WB 3 i0 (.int .i64 0) 1 8 Try.underlying24 hi0 hz0 hz1 hz2 rfl (by decide) _ _ _ rfl (hro.out.alloc _) ⟨wx.heap.size, 0, none⟩ 1 1 [.int .i64 (q : Int)] rfl rfl (cell_one_new _ _ _) (by simp [Value.oneCell']) M1 N1 S1 ?_; intro v' w4' hown' hgrow _; obtain ⟨a9, cap9, rfl⟩ := owns_slice hown'; have hBq : Below WB w5 w4' := (hB.out.alloc hxWB _).grown hgrow (by simp; omega) (fun j ej => (hro.out.lt j ej).1); have hBr : Below w5.heap.size w5 w4' := HWB.out.symm ▸ hBq; have p2 := (hBr.cell (p := ⟨b1, off1 + i * 3 + 2, none⟩) hl1).trans K2.out; have p1 := (hBr.cell (p := ⟨b1, off1 + i * 3 + 1, none⟩) hl1).trans K1.out)
          have O4 : Hid (w4'.ownsRow WB 3 1 (.slice a9 (i + 1) cap9) (i + 1) ((seen ++ [(q : Int)]).map (Value.int .i64))) := by
            unfold Hid; rw [List.map_append]; exact hown'
          have GL : Hid ((seen ++ [(q : Int)]).length = i + 1) := by unfold Hid; rw [List.length_append, hgl.out]; rfl
          have HBQ := Lib.hid hBq
          clear hown' hgrow M1 N1 S1 hBq hBr
          go_wp2
          go_roundw
          case rel => exact ⟨i + 1, k, seen ++ [(q : Int)], a9, cap9, by omega, hk, by go_num, rfl, rfl, GL.out, HR6.out, O4.out, HBQ.out⟩
          case measure => simp [intOf]; omega
        · have e2 : ((t : Int) != 2) = true := by simp; omega
          have hr : ∃ win', win.drop k = (q : Int) :: win' ∧ SeatOk n (l.drop (i + 1)) (seen ++ [(q : Int)]) win' := by have h1 := HR.out; rw [if_neg ht] at h1; exact h1
          obtain ⟨win', hd1, hd2⟩ := hr
          have hkl : k < win.length := by
            have h1 : (win.drop k).length = win'.length + 1 := by rw [hd1]; rfl
            rw [List.length_drop] at h1; omega
          rw [List.drop_eq_getElem_cons hkl] at hd1
          injection hd1 with hd1 hd3
          have hwk : win[k]?.getD 0 = (q : Int) := by rw [List.getElem?_eq_getElem hkl]; exact hd1
          have HR6 : Hid (SeatOk n (l.drop (i + 1)) (seen ++ [(q : Int)]) (win.drop (k + 1))) := by unfold Hid; rw [hd3]; exact hd2
          obtain ⟨wb, wo, hwa, hwlt, hwc⟩ := I3.out.2.2.2 (by omega)
          have kw := hwc k hkl
          rw [hwk] at kw
          have KW := Lib.hid kw
          have hkd : decide ((win.length : Int) ≤ (k : Int)) = false := decide_eq_false (by omega)
          have hkd2 : decide (win.length ≤ k) = false := decide_eq_false (by omega)
          have hki : (k : Int) < (win.length : Int) := by omega
          have hk2 : k ≤ 2 := by have := HWL.out; omega
          have hqq : ((q : Int) != (q : Int)) = false := by simp
          subst hwa
          clear ht HR hd1 hd2 hd3 hwk hwc kw
          go_wp2_with (at_builtin; refine wpList_append_own _ rfl _ _ 24 rfl WB 3 i0 (.int .i64 0) 1 8 Try.underlying24 hi0 hz0 hz1 hz2 rfl (by decide) _ _ _ rfl (hro.out.alloc _) ⟨wx.heap.size, 0, none⟩ 1 1 [.int .i64 (q : Int)] rfl rfl (cell_one_new _ _ _) (by simp [Value.oneCell']) M1 N1 S1 ?_; intro v' w4' hown' hgrow _; obtain ⟨a9, cap9, rfl⟩ := owns_slice hown'; have hBq : Below WB w5 w4' := (hB.out.alloc hxWB _).grown hgrow (by simp; omega) (fun j ej => (hro.out.lt j ej).1); have hBr : Below w5.heap.size w5 w4' := HWB.out.symm ▸ hBq; have p2 := (hBr.cell (p := ⟨b1, off1 + i * 3 + 2, none⟩) hl1).trans K2.out; have p1 := (hBr.cell (p := ⟨b1, off1 + i * 3 + 1, none⟩) hl1).trans K1.out)
          have O4 : Hid (w4'.ownsRow WB 3 1 (.slice a9 (i + 1) cap9) (i + 1) ((seen ++ [(q : Int)]).map (Value.int .i64))) := by
            unfold Hid; rw [List.map_append]; exact hown'
          have GL : Hid ((seen ++ [(q : Int)]).length = i + 1) := by unfold Hid; rw [List.length_append, hgl.out]; rfl
          have HBQ := Lib.hid hBq
          have p3 := (hBr.cell (p := ⟨wb, wo + k, none⟩) hwlt).trans KW.out
          have u1 : ∀ u : Beh w4', u.w.cell? ⟨b1, off1 + i * 3 + 1, none⟩ = _ := Beh.cell p1 (Nat.lt_of_lt_of_le hl1 hBr.size)
          have u3 : ∀ u : Beh w4', u.w.cell? ⟨wb, wo + k, none⟩ = _ := Beh.cell p3 (Nat.lt_of_lt_of_le hwlt hBr.size)
          clear hown' hgrow M1 N1 S1 hBq
          go_wp2_with fail
          refine wp_region_below (by kernel_rfl) (by kernel_rfl) ?_
          repeat (go_big_quiet_step (fail))
          refine wpQuiet_nil ?_
          rintro w8 ⟨⟨_, hb8'⟩, he⟩
          have hb8 : Below w4'.heap.size w4' w8 := by rw [he]; exact hb8'
          have O5 := Lib.hid (owns_under O4.out hb8)
          have B5 : Hid (Below WB w5 w8) := HBQ.out.trans (hb8.mono (by have := HBQ.out.size; have := HWB.out; omega))
          clear hb8 hb8' he u1 u3 p1 p2 p3 hBr
          go_wp2
          go_roundw
          case rel => exact ⟨i + 1, k + 1, seen ++ [(q : Int)], a9, cap9, by omega, hkl, by go_num, by go_num, rfl, GL.out, HR6.out, O5.out, B5.out⟩
          case measure => simp [intOf]; omega
      · obtain rfl : i = l.length := by omega
        have hr := hO.out
        rw [List.drop_length] at hr
        have hr : win.drop k = [] := hr
        have hkl : k = s := by
          have hwS := HWL.out
          have h1 : (win.drop k).length = 0 := by rw [hr]; rfl
          rw [List.length_drop] at h1; omega
        have hks : ((k : Int) == (s : Int)) = true := by rw [hkl]; simp
        have hws : ((win.length : Int) == (s : Int)) = true := by rw [HWL.out]; simp
        go_wp2
        go_ret
        exact ⟨rfl, B.out.trans (hBx.mono B.out.size)⟩
  · clear w0
    go_enter Try.func3, Try.ntmps3
    go_wp2
    go_ret
    exact ⟨rfl, Below.refl _ _⟩

end Go.Proofs.Ytafnmongglhlaaa.fnTransfer
