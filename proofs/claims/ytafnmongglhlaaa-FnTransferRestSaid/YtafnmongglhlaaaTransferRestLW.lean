/-
  laws.FnTransferRest returns true for every code. No condition.
-/
import Derived.Test.YtafnmongglhlaaaGrp1
import Derived.Test.YtafnmongglhlaaaGrp25
namespace Go.Proofs.Ytafnmongglhlaaa.fnTransferRest
open Go.RowKit
set_option linter.unusedVariables false


set_option maxRecDepth 100000 in
set_option maxHeartbeats 2000000 in
/-- The law's walk: it returns true, and writes nothing that was there. -/
theorem walk (a0 : Option Addr) (len0 cap0 : Nat) (z0 : List Int) (w : World) (w0 : IsRow .u8 w a0 len0 cap0 z0) :
    Calls Try.prog 7 #[.slice a0 len0 cap0] w fun e w' => e = .returned (.bool true) ∧ Below w.heap.size w w' := by
  by_cases hl : len0 ≤ 1048576
  · skip
    have hcap := w0.cap
    have HB := Lib.hid w0.bytes; clear w0
    go_enter Try.func7, Try.ntmps7
    go_wp2_with fail
    refine (drawTfSteps_any a0 len0 cap0 _ _ HB.out hcap (by omega)).mono ?_
    rintro e w1 ⟨xs, g, c, lots, al, cl, s, rfl, hp, hpv, hol, hl5, hs4, hb⟩
    have B := Lib.hid hb
    have P := Lib.hid hp
    have HSM := Lib.hid hp.2.1
    have HPV := Lib.hid hpv
    obtain ⟨n, hn⟩ : ∃ n, lots.length = n := ⟨_, rfl⟩
    rw [hn] at hol hl5 ⊢
    have J := Lib.hid (IsInts.of_owned hol (by omega))
    have HN := Lib.hid hn
    have hx12 := (pilesB_pos hpv).2.2.2.2
    clear hb HB hp hol hn hpv
    obtain ⟨v, hv⟩ : ∃ v, transB xs lots (s : Int) = v := ⟨_, rfl⟩
    obtain ⟨l, hL⟩ : ∃ l, tfAll xs lots (s : Int) = l := ⟨_, rfl⟩
    have hl5' : l.length ≤ 5 := by rw [← hL]; exact tfAll_short _ _ _
    have HV := Lib.hid hv
    have HL := Lib.hid hL
    clear hv hL
    have hne : (v != v) = false := by cases v <;> rfl
    have heq : (v == v) = true := by cases v <;> rfl
    go_wp2_with fail
    refine (implSteps_as _ _ _ xs _ n cl lots (s : Int) l v _ P.out.piles HSM.out J.out HV.out HL.out).mono ?_
    rintro e w2 ⟨a1, c1, gs1, rfl, ho, hb⟩
    have P := Lib.hid (P.out.below hb)
    have J := Lib.hid (J.out.below hb)
    have I1 := Lib.hid (ho.is (by omega) (by omega))
    have B := Lib.hid (B.out.trans (hb.mono B.out.size))
    clear hb ho
    go_wp2_with fail
    refine (specSteps_as _ _ _ xs _ n cl lots (s : Int) l v _ P.out.piles HSM.out J.out HV.out HL.out).mono ?_
    rintro e w3 ⟨a2, c2, gs2, rfl, ho, hb⟩
    have P := Lib.hid (P.out.below hb)
    have J := Lib.hid (J.out.below hb)
    have I1 := Lib.hid (I1.out.below hb)
    have I2 := Lib.hid (ho.is (by omega) (by omega))
    have B := Lib.hid (B.out.trans (hb.mono B.out.size))
    clear hb ho
    go_wp2_with fail
    refine (sameSteps_self _ _ _ l _ _ _ I1.out I2.out).mono ?_
    rintro e w4 ⟨rfl, hd⟩
    have hb := hd.below w3.heap.size
    have P := Lib.hid (P.out.below hb)
    have J := Lib.hid (J.out.below hb)
    have I1 := Lib.hid (I1.out.below hb)
    have I2 := Lib.hid (I2.out.below hb)
    have B := Lib.hid (B.out.trans (hb.mono B.out.size))
    clear hb hd
    cases v
    · skip
      go_wp2_with fail
      refine (sameSteps_self _ _ _ l _ _ _ I1.out I2.out).mono ?_
      rintro e w5 ⟨rfl, hd⟩
      have hb := hd.below w4.heap.size
      have P := Lib.hid (P.out.below hb)
      have J := Lib.hid (J.out.below hb)
      have I1 := Lib.hid (I1.out.below hb)
      have I2 := Lib.hid (I2.out.below hb)
      have B := Lib.hid (B.out.trans (hb.mono B.out.size))
      clear hb hd
      go_wp2
      go_ret
      exact ⟨rfl, B.out⟩
    obtain ⟨hlo, hfi, hs12, hsn, hsum⟩ := (transB_iff _ _ _).1 HV.out
    rw [HN.out] at hsn hfi
    have ARG := trans_arg HV.out
    have hS2 : s ≤ 2 := by omega
    have hSn : s ≤ lots.length := by rw [HN.out]; omega
    have GOOD := tf_start ARG hS2 hSn
    have HRUN : Hid (l = tfRun xs lots (quoR (sumL xs) (s : Int)) lots.length (tfStart xs lots.length s)) := by rw [Hid, ← HL.out, tfAll_yes HV.out, Int.toNat_natCast]
    have HTH : Hid (thereL lots (tfG (tfStart xs lots.length s).gs) = lots) := there_start hlo
    have hn1 : 1 ≤ n := by omega
    have hqr := ARG.qpos
    have hqt := ARG.qtop
    have HIN : Hid (∀ t ∈ l, InOk (quoR (sumL xs) (s : Int)) n t) := fun t ht => by have h1 := in_run ARG lots.length _ GOOD t (by rw [← HRUN.out]; exact ht); rw [HN.out] at h1; exact h1
    have HAR := Lib.hid ARG
    have HGD := Lib.hid GOOD
    have HLO := Lib.hid hlo
    have HFI := Lib.hid hfi
    clear ARG GOOD hlo hfi
    have HRS : Hid (RestOk l n s) := by have h1 := rest_run HAR.out lots.length _ HGD.out (by rw [HTH.out]; exact Nat.le_refl _); rw [← HRUN.out, HTH.out, HN.out] at h1; exact h1
    go_wp2
    go_loop [10, 11, 12] (fun lv rv iv => ∃ (i left rest : Nat), i ≤ l.length ∧ iv = .int .i64 (i : Int) ∧ lv = .int .i64 (left : Int) ∧ rv = .int .i64 (rest : Int) ∧ (left ≤ 5 ∧ rest ≤ 5) ∧ Hid (RestOk (l.drop i) left rest)) (fun _ _ iv => l.length - (intOf iv).toNat)
    case atStart => exact ⟨0, n, s, Nat.zero_le _, rfl, rfl, rfl, by omega, HRS.out⟩
    case round =>
      obtain ⟨i, left, rest, hi, rfl, rfl, rfl, hb5, hR⟩ := hrel
      by_cases hlt : i < l.length
      · obtain ⟨⟨cs, x, k⟩, hst⟩ : ∃ st, l[i]? = some st := ⟨_, List.getElem?_eq_getElem hlt⟩
        obtain ⟨b1, o1, a4, l4, c4, rfl, hl1, k0, k1, k2, f1⟩ := I1.out.at hst
        have k2 : World.cell? w4 ⟨b1, o1 + i * 3 + 2, none⟩ = some (.int .i64 (k : Int)) := k2
        have hdr : l.drop i = (cs, x, k) :: l.drop (i + 1) := drop_at hst
        have hr := hR.out
        rw [hdr] at hr
        obtain ⟨⟨r1, r2⟩, r3, r4, r5⟩ := hr
        have hin := (HIN.out _ (List.mem_of_getElem? hst)).kind
        have r3 : k = 3 → left ≤ rest := r3
        have r4 : k = 2 → rest < left := r4
        have hin : k = 1 ∨ k = 2 ∨ k = 3 := hin
        have HR5 : Hid (RestOk (l.drop (i + 1)) (left - 1) (if k = 2 then rest else rest - 1)) := r5
        have hii : (i : Int) < (l.length : Int) := by omega
        have hw1 : IntKind.i64.wrap ((left : Int) - 1) = ((left - 1 : Nat) : Int) := by rw [IntWalk.i64_in _ (by omega)]; omega
        clear hdr r5 f1 k0 k1 hst hR
        by_cases hk2 : k = 2
        · subst hk2
          have hd : decide ((left : Int) ≤ (rest : Int)) = false := decide_eq_false (by have := r4 rfl; omega)
          have hd' : decide (left ≤ rest) = false := decide_eq_false (by have := r4 rfl; omega)
          clear r3 r4 hin
          go_wp2
          go_round
          case rel => exact ⟨i + 1, left - 1, rest, by omega, by go_num, rfl, rfl, by omega, HR5.out⟩
          case measure => simp [intOf]; omega
        · have hw2 : IntKind.i64.wrap ((rest : Int) - 1) = ((rest - 1 : Nat) : Int) := by rw [IntWalk.i64_in _ (by omega)]; omega
          have e2 : ((k : Int) == 2) = false := by simp; omega
          have n2 : ((k : Int) != 2) = true := by simp; omega
          have HR6 : Hid (RestOk (l.drop (i + 1)) (left - 1) (rest - 1)) := by have h1 := HR5.out; rw [if_neg hk2] at h1; exact h1
          by_cases hk3 : k = 3
          · subst hk3
            have hd : decide ((rest : Int) < (left : Int)) = false := decide_eq_false (by have := r3 rfl; omega)
            have hd' : decide (rest < left) = false := decide_eq_false (by have := r3 rfl; omega)
            clear r3 r4 hin hk2 HR5
            go_wp2
            go_round
            case rel => exact ⟨i + 1, left - 1, rest - 1, by omega, by go_num, rfl, rfl, by omega, HR6.out⟩
            case measure => simp [intOf]; omega
          · have e3 : ((k : Int) == 3) = false := by simp; omega
            clear r3 r4 hin hk2 hk3 HR5
            go_wp2
            go_round
            case rel => exact ⟨i + 1, left - 1, rest - 1, by omega, by go_num, rfl, rfl, by omega, HR6.out⟩
            case measure => simp [intOf]; omega
      · obtain rfl : i = l.length := by omega
        have hr := hR.out
        rw [List.drop_length] at hr
        have hr : rest = 0 := hr
        subst hr
        go_wp2
        go_ret
        exact ⟨rfl, B.out⟩
  · clear w0
    go_enter Try.func7, Try.ntmps7
    go_wp2
    go_ret
    exact ⟨rfl, Below.refl _ _⟩

end Go.Proofs.Ytafnmongglhlaaa.fnTransferRest
