/-
  spec.SeatsCheck: a contract at all arguments. It writes into no memory.
-/
import Derived.Test.YtafnmongglhlaabGrp7
namespace Go.Proofs.Ytafnmongglhlaab
open Go.RowKit

attribute [local go_sem] Oper.semAt_some

theorem checkB_no {vs gs : List Int} {m : Int} (h : okC vs gs m = false) : checkB vs gs m = false := by rw [checkB, h]; rfl
theorem checkB_yes {vs gs : List Int} {m : Int} (h : okC vs gs m = true) : checkB vs gs m = chTo vs gs m vs.length vs.length := by rw [checkB, h, Bool.true_and]
theorem chAt_no {vs gs : List Int} {m : Int} {i k : Nat} {gi : Int} (hg : gs[i]?.getD 0 = gi) (h : ¬ 0 < gi) : chAt vs gs m i k = true := by
  unfold chAt; rw [hg, decide_eq_false h]; rfl
theorem chAt_is {vs gs : List Int} {m : Int} {i k : Nat} {gi gk vi vk di dk : Int} {b : Bool} (h1 : gs[i]?.getD 0 = gi) (h2 : gs[k]?.getD 0 = gk) (h3 : vs[i]?.getD 0 = vi) (h4 : vs[k]?.getD 0 = vk) (h5 : divI m gk = dk) (h6 : divI m (gi - 1) = di) (h : 0 < gi) (hb : decide (vi * dk < vk * di) = b) : chAt vs gs m i k = !b := by
  unfold chAt; rw [h1, h2, h3, h4, h5, h6, decide_eq_true h, hb, Bool.true_and]

set_option maxRecDepth 100000 in
set_option maxHeartbeats 8000000 in
/-- **spec.SeatsCheck**, at valid arguments. -/
theorem specCheck_yes (a : Option Addr) (n cap : Nat) (vs : List Int) (a' : Option Addr) (cap' : Nat) (gs : List Int) (m : Int) (v : Bool) (w : World) (h : IsInts w a n cap vs) (h' : IsInts w a' n cap' gs)
    (hv1 : voteB vs = true) (hv2 : giveB gs n = true) (hv3 : methB m = true) (hr : chTo vs gs m n n = v) :
    Calls Try.prog 25 #[.slice a n cap, .slice a' n cap', .int .i64 m] w fun e w' => e = .returned (.bool v) ∧ Dr w w' := by
  have H1 := Lib.hid h
  have H2 := Lib.hid h'
  have hm1 := h.2.2.1
  obtain ⟨⟨x1, x2, x3⟩, x4⟩ := (voteB_iff vs).1 hv1
  obtain ⟨g1, g2, g3⟩ := (giveB_iff gs n).1 hv2
  rw [h.1] at x1 x2 x3
  rw [g2] at g1
  obtain ⟨vb, vo, rfl, hvb, hvc⟩ := h.2.2.2 (by omega)
  obtain ⟨gb, go, rfl, hgb, hgc⟩ := h'.2.2.2 (by omega)
  have HVC := Lib.hid hvc
  have HGC := Lib.hid hgc
  have HV : Hid (∀ i, i < n → 0 ≤ vs[i]?.getD 0 ∧ vs[i]?.getD 0 ≤ 99) := fun i hi => toB_at x1 hi
  have HG : Hid (∀ i, i < n → 0 ≤ gs[i]?.getD 0 ∧ gs[i]?.getD 0 ≤ 20) := fun i hi => toB_at g1 hi
  have V1 := Lib.hid hv1
  have V2 := Lib.hid hv2
  have HM := Lib.hid hv3
  have HR := Lib.hid hr
  clear h h' hvc hgc hv1 hv2 hr x1 x4 g1 g2 g3
  go_enter Try.func25, Try.ntmps25
  go_wp2_with fail
  refine (specVotes_as _ _ _ vs true _ H1.out V1.out).mono ?_
  rintro e w1 ⟨rfl, rfl⟩
  go_wp2_with fail
  refine (specGiven_as _ _ _ gs n true _ H2.out (by omega) V2.out).mono ?_
  rintro e w1 ⟨rfl, rfl⟩
  go_wp2_with fail
  refine (specMeth_as m true _ HM.out).mono ?_
  rintro e w1 ⟨rfl, rfl⟩
  go_wp2
  go_loopw [7, 8] (fun iv _ wr => ∃ i : Nat, i ≤ n ∧ iv = .int .i64 (i : Int) ∧ Hid (chTo vs gs m n i = true) ∧ Dr w wr) (fun iv _ _ => n - (intOf iv).toNat)
  case atStart => exact ⟨0, Nat.zero_le _, rfl, rfl, Dr.refl _⟩
  case round =>
    rename World => wx
    obtain ⟨i, hi, rfl, hc, hd⟩ := hrel
    by_cases hlt : i < n
    · have cvi := ((hd.below w.heap.size).cell (p := ⟨vb, vo + i, none⟩) hvb).trans (HVC.out i hlt)
      have cgi := ((hd.below w.heap.size).cell (p := ⟨gb, go + i, none⟩) hgb).trans (HGC.out i hlt)
      have bvi := HV.out i hlt
      have bgi := HG.out i hlt
      obtain ⟨vi, evi⟩ : ∃ t, vs[i]?.getD 0 = t := ⟨_, rfl⟩
      obtain ⟨gi, egi⟩ : ∃ t, gs[i]?.getD 0 = t := ⟨_, rfl⟩
      rw [evi] at bvi
      rw [egi] at bgi
      obtain ⟨di, edi⟩ : ∃ t, divI m (gi - 1) = t := ⟨_, rfl⟩
      have hg1 : -1 ≤ gi - 1 ∧ gi - 1 ≤ 20 := by omega
      have bdi := (divI_bound hv3 hg1).2
      rw [edi] at bdi
      have hii : (i : Int) < (n : Int) := by omega
      have EVI := Lib.hid evi
      have EGI := Lib.hid egi
      have EDI := Lib.hid edi
      clear evi egi edi cvi cgi
      go_wp2
      go_loopw [8] (fun kv wr => ∃ k : Nat, k ≤ n ∧ kv = .int .i64 (k : Int) ∧ Hid (chRow vs gs m i k = true) ∧ Dr w wr) (fun kv _ => n - (intOf kv).toNat)
      case atStart => exact ⟨0, Nat.zero_le _, rfl, rfl, hd⟩
      case round =>
        clear hd
        obtain ⟨k, hk, rfl, hcr, hd⟩ := hrel
        by_cases hkt : k < n
        · have cvi := ((hd.below w.heap.size).cell (p := ⟨vb, vo + i, none⟩) hvb).trans (HVC.out i hlt)
          have cgi := ((hd.below w.heap.size).cell (p := ⟨gb, go + i, none⟩) hgb).trans (HGC.out i hlt)
          rw [EVI.out] at cvi
          rw [EGI.out] at cgi
          have HS := chRow_succ vs gs m i k
          rw [hcr.out, Bool.true_and] at HS
          have HS := Lib.hid HS
          by_cases hpos : 0 < gi
          · have hdp : decide (0 < gi) = true := decide_eq_true hpos
            have cvk := ((hd.below w.heap.size).cell (p := ⟨vb, vo + k, none⟩) hvb).trans (HVC.out k hkt)
            have cgk := ((hd.below w.heap.size).cell (p := ⟨gb, go + k, none⟩) hgb).trans (HGC.out k hkt)
            have bvk := HV.out k hkt
            have bgk := HG.out k hkt
            obtain ⟨vk, evk⟩ : ∃ t, vs[k]?.getD 0 = t := ⟨_, rfl⟩
            obtain ⟨gk, egk⟩ : ∃ t, gs[k]?.getD 0 = t := ⟨_, rfl⟩
            rw [evk] at bvk cvk
            rw [egk] at bgk cgk
            obtain ⟨dk, edk⟩ : ∃ t, divI m gk = t := ⟨_, rfl⟩
            have bdk := divI_in hv3 bgk
            rw [edk] at bdk
            have px := mul_bound (x := vi) (y := dk) ⟨by omega, by omega⟩ ⟨by omega, by omega⟩
            have py := mul_bound2 (x := vk) (y := di) ⟨by omega, by omega⟩ ⟨by omega, by omega⟩
            have hw1 : IntKind.i64.wrap (vi * dk) = vi * dk := IntWalk.i64_in _ (by omega)
            have hw2 : IntKind.i64.wrap (vk * di) = vk * di := IntWalk.i64_in _ (by omega)
            have hw3 : IntKind.i64.wrap (gi - 1) = gi - 1 := IntWalk.i64_in _ (by omega)
            obtain ⟨b, hb⟩ : ∃ b, decide (vi * dk < vk * di) = b := ⟨_, rfl⟩
            have HAT := Lib.hid (chAt_is EGI.out egk EVI.out evk edk EDI.out hpos hb)
            have EDK := Lib.hid edk
            have hki : (k : Int) < (n : Int) := by omega
            have hgk : -1 ≤ gk ∧ gk ≤ 20 := by omega
            clear evk egk edk px py
            go_wp2_with fail
            go_quiet (first | (go_at_call 48; exact quiet_same (specDiv_as gk m dk _ HM.out hgk EDK.out)) | (go_at_call 48; exact quiet_same (specDiv_as (gi - 1) m di _ HM.out hg1 EDI.out)))
            cases b
            · have HS2 : Hid (chRow vs gs m i (k + 1) = true) := by rw [Hid, HS.out, HAT.out]; rfl
              go_wp2
              go_roundw
              case rel => exact ⟨k + 1, by omega, by go_num, HS2, hd.drewN _⟩
              case measure => simp [intOf]; omega
            · have HF : Hid (v = false) := by rw [Hid, ← HR.out]; exact chTo_no hlt hkt HAT.out
              go_wp2
              go_ret
              exact ⟨ret_bool HF.out.symm, hd.drewN _⟩
          · have hdp : decide (0 < gi) = false := decide_eq_false hpos
            have HAT := Lib.hid (chAt_no (vs := vs) (m := m) (k := k) EGI.out hpos)
            have HS2 : Hid (chRow vs gs m i (k + 1) = true) := by rw [Hid, HS.out, HAT.out]
            clear hpos
            go_wp2_with fail
            go_quiet (fail)
            go_wp2
            go_roundw
            case rel => exact ⟨k + 1, by omega, by go_num, HS2, hd.drewN _⟩
            case measure => simp [intOf]; omega
        · obtain rfl : k = n := by omega
          have HS : Hid (chTo vs gs m k (i + 1) = true) := by rw [Hid, chTo_succ, hc.out, hcr.out]; rfl
          go_wp2
          go_roundw
          case rel => exact ⟨i + 1, by omega, by go_num, HS, hd⟩
          case measure => simp [intOf]; omega
    · obtain rfl : i = n := by omega
      have HX : Hid (v = true) := by rw [Hid, ← HR.out, hc.out]
      go_wp2
      go_ret
      exact ⟨ret_bool HX.out.symm, hd⟩

set_option maxHeartbeats 2000000 in
/-- **spec.SeatsCheck**. -/
theorem specCheck_as (a : Option Addr) (n cap : Nat) (vs : List Int) (a' : Option Addr) (n' cap' : Nat) (gs : List Int) (m : Int) (v : Bool) (w : World) (h : IsInts w a n cap vs) (h' : IsInts w a' n' cap' gs) (hr : checkB vs gs m = v) :
    Calls Try.prog 25 #[.slice a n cap, .slice a' n' cap', .int .i64 m] w fun e w' => e = .returned (.bool v) ∧ Dr w w' := by
  have H1 := Lib.hid h
  have H2 := Lib.hid h'
  have hn := h.1
  have hm1 := h.2.2.1
  obtain ⟨v1, hv1⟩ : ∃ v, voteB vs = v := ⟨_, rfl⟩
  obtain ⟨v2, hv2⟩ : ∃ v, giveB gs n = v := ⟨_, rfl⟩
  obtain ⟨v3, hv3⟩ : ∃ v, methB m = v := ⟨_, rfl⟩
  have HO : Hid (okC vs gs m = (v1 && (v2 && v3))) := by unfold Hid okC; rw [hv1, hn, hv2, hv3]
  cases v1
  · have HX : Hid (v = false) := by rw [Hid, ← hr, checkB_no HO.out]
    have V1 := Lib.hid hv1
    clear h h' hv1 hv2 hv3 hr hn
    go_enter Try.func25, Try.ntmps25
    go_wp2_with fail
    refine (specVotes_as _ _ _ vs false _ H1.out V1.out).mono ?_
    rintro e w1 ⟨rfl, rfl⟩
    go_wp2
    go_ret
    exact ⟨ret_bool HX.out.symm, Dr.refl _⟩
  cases v2
  · have HX : Hid (v = false) := by rw [Hid, ← hr, checkB_no HO.out]
    have V1 := Lib.hid hv1
    have V2 := Lib.hid hv2
    clear h h' hv1 hv2 hv3 hr hn
    go_enter Try.func25, Try.ntmps25
    go_wp2_with fail
    refine (specVotes_as _ _ _ vs true _ H1.out V1.out).mono ?_
    rintro e w1 ⟨rfl, rfl⟩
    go_wp2_with fail
    refine (specGiven_as _ _ _ gs n false _ H2.out (by omega) V2.out).mono ?_
    rintro e w1 ⟨rfl, rfl⟩
    go_wp2
    go_ret
    exact ⟨ret_bool HX.out.symm, Dr.refl _⟩
  cases v3
  · have HX : Hid (v = false) := by rw [Hid, ← hr, checkB_no HO.out]
    have V1 := Lib.hid hv1
    have V2 := Lib.hid hv2
    have V3 := Lib.hid hv3
    clear h h' hv1 hv2 hv3 hr hn
    go_enter Try.func25, Try.ntmps25
    go_wp2_with fail
    refine (specVotes_as _ _ _ vs true _ H1.out V1.out).mono ?_
    rintro e w1 ⟨rfl, rfl⟩
    go_wp2_with fail
    refine (specGiven_as _ _ _ gs n true _ H2.out (by omega) V2.out).mono ?_
    rintro e w1 ⟨rfl, rfl⟩
    go_wp2_with fail
    refine (specMeth_as m false _ V3.out).mono ?_
    rintro e w1 ⟨rfl, rfl⟩
    go_wp2
    go_ret
    exact ⟨ret_bool HX.out.symm, Dr.refl _⟩
  obtain ⟨g1, g2, g3⟩ := (giveB_iff gs n).1 hv2
  have en' : n' = n := h'.1.symm.trans g2
  subst en'
  have hx : chTo vs gs m n' n' = v := by rw [← hr, checkB_yes HO.out, hn]
  exact specCheck_yes a n' cap vs a' cap' gs m v w h h' hv1 hv2 hv3 hx

end Go.Proofs.Ytafnmongglhlaab
