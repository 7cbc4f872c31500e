/-
  The contracts of lots, their answers named. No condition but what each theorem says.
  spec.l15Ok, TransferSteps and TransferWinners: what they answer at all piles, lots and numbers, in memory of their own; they write into no memory that was there.
  The method choose of impl's transfer: who is taken, and what happens; it writes into no memory that was there.
  Parts of a list that lies in memory: what is appended of it. No condition but what each theorem says.
  spec.LotsOf: what it returns for every number of candidates and every seed, in memory of its own; it writes into no memory that was there.
-/
import Derived.Test.YtafnmongglhlaaaGrp16
import Derived.Test.YtafnmongglhlaaaGrp19
import Derived.Test.YtafnmongglhlaaaGrp18
import Derived.Deep.RegionLaw
import Derived.Test.YtafnmongglhlaaaGrp4
import Derived.Test.YtafnmongglhlaaaGrp2
namespace Go.Proofs.Ytafnmongglhlaaa
open Go.RowKit

/-- **impl.LotsValid**, its answer named. -/
theorem implLots_as (a : Option Addr) (len cap : Nat) (zs : List Int) (v : Bool) (w : World) (h : IsInts w a len cap zs) (hv : lotsB zs = v) :
    Calls Try.prog 107 #[.slice a len cap] w fun e w' => e = .returned (.bool v) ∧ Below w.heap.size w w' := by
  subst hv; exact implLots_any a len cap zs w h
/-- **spec.LotsValid**, its answer named. -/
theorem specLots_as (a : Option Addr) (len cap : Nat) (zs : List Int) (v : Bool) (w : World) (h : IsInts w a len cap zs) (hv : lotsB zs = v) :
    Calls Try.prog 79 #[.slice a len cap] w fun e w' => e = .returned (.bool v) ∧ Dr w w' := by
  subst hv; exact specLots_any a len cap zs w h

end Go.Proofs.Ytafnmongglhlaaa

namespace Go.Proofs.Ytafnmongglhlaaa
open Go.RowKit

attribute [local go_sem] Oper.semAt_some

/-- Valid arguments. -/
def transB (ps : List Pl) (lots : List Int) (s : Int) : Bool := lotsB lots && (fitsB ps (lots.length : Int) && (inB s 1 2 && (decide (s ≤ (lots.length : Int)) && decide (sumL ps ≤ 60))))
/-- All steps. -/
def tfAll (ps : List Pl) (lots : List Int) (s : Int) : List TfStp := if transB ps lots s = true then tfRun ps lots (quoR (sumL ps) s) lots.length (tfStart ps lots.length s.toNat) else []
theorem transB_iff (ps : List Pl) (lots : List Int) (s : Int) : transB ps lots s = true ↔ lotsB lots = true ∧ fitsB ps (lots.length : Int) = true ∧ (1 ≤ s ∧ s ≤ 2) ∧ s ≤ (lots.length : Int) ∧ sumL ps ≤ 60 := by
  simp [transB, inB]
theorem tfAll_yes {ps : List Pl} {lots : List Int} {s : Int} (h : transB ps lots s = true) : tfAll ps lots s = tfRun ps lots (quoR (sumL ps) s) lots.length (tfStart ps lots.length s.toNat) := by rw [tfAll, if_pos h]
theorem tfAll_no {ps : List Pl} {lots : List Int} {s : Int} (h : transB ps lots s = false) : tfAll ps lots s = [] := by rw [tfAll, h]; rfl
theorem sumL_low {ps : List Pl} (h : ∀ p ∈ ps, 1 ≤ p.2) : 0 ≤ sumL ps := by
  have := tfM_mono h ps.length 0 (Nat.zero_le _)
  rw [tfM_all] at this
  exact this
theorem trans_arg {ps : List Pl} {lots : List Int} {s : Int} (h : transB ps lots s = true) : TfArg ps lots (quoR (sumL ps) s) := by
  obtain ⟨h1, h2, h3, h4, h5⟩ := (transB_iff ps lots s).1 h
  have hp := (fits_parts h2).1
  have hq := quoR_range (t := sumL ps) (s := s) ((quoB_iff _ _).2 ⟨⟨sumL_low (pilesB_pos hp).2.1, h5⟩, h3⟩)
  exact ⟨h1, hp, h5, hq.1, by omega⟩
theorem tfAll_short (ps : List Pl) (lots : List Int) (s : Int) : (tfAll ps lots s).length ≤ 5 := by
  cases h : transB ps lots s
  · rw [tfAll_no h]; simp
  · rw [tfAll_yes h]
    have h1 := tf_length (ps := ps) (lots := lots) (q := quoR (sumL ps) s) lots.length (tfStart ps lots.length s.toNat)
    have h2 := (lotsB_len ((transB_iff ps lots s).1 h).1).2
    omega

set_option maxRecDepth 100000 in
set_option maxHeartbeats 4000000 in
/-- **spec.l15Ok**. -/
theorem ok15_as (a : Option Addr) (len cap : Nat) (ps : List Pl) (al : Option Addr) (n cl : Nat) (lots : List Int) (s : Int) (v : Bool) (w : World) (h : IsPiles w a len cap ps) (hs : Small ps) (hl : IsInts w al n cl lots) (hv : transB ps lots s = v) :
    Calls Try.prog 48 #[.slice a len cap, .slice al n cl, .int .i64 s] w fun e w' => e = .returned (.bool v) ∧ Below w.heap.size w w' := by
  have HI := Lib.hid h
  have HS := Lib.hid hs
  have HL := Lib.hid hl
  have HL1 := Lib.hid hl.1
  subst hv
  clear h hs hl
  cases h1 : lotsB lots
  · have HE : Hid (transB ps lots s = false) := by unfold Hid transB; rw [h1]; rfl
    have H1 := Lib.hid h1; clear h1
    go_enter Try.func48, Try.ntmps48
    go_wp2_with fail
    refine (specLots_as _ _ _ lots false _ HL.out H1.out).mono ?_
    rintro e w1 ⟨rfl, hd⟩
    go_wp2
    go_ret
    exact ⟨ret_bool HE.out.symm, hd.below _⟩
  · have H1 := Lib.hid h1
    have hn := lotsB_len h1
    rw [HL1.out] at hn
    cases h2 : fitsB ps (n : Int)
    · have HE : Hid (transB ps lots s = false) := by unfold Hid transB; rw [h1, HL1.out, h2]; rfl
      have H2 := Lib.hid h2; clear h1 h2
      go_enter Try.func48, Try.ntmps48
      go_wp2_with fail
      refine (specLots_as _ _ _ lots true _ HL.out H1.out).mono ?_
      rintro e w1 ⟨rfl, hd⟩
      have B1 := Lib.hid (hd.below w.heap.size)
      clear hd
      go_wp2_with fail
      refine (specFits_as _ _ _ ps (n : Int) false _ (HI.out.below B1.out) HS.out H2.out).mono ?_
      rintro e w2 ⟨rfl, hb⟩
      have B2 := Lib.hid (below_on B1.out hb)
      clear hb
      go_wp2
      go_ret
      exact ⟨ret_bool HE.out.symm, B2.out⟩
    · have H2 := Lib.hid h2
      have hpv := (fits_parts h2).1
      have hmv : ∀ i, 0 ≤ mAt ps i ∧ mAt ps i ≤ 1000000 := fun i => by have := mAt_valid hpv i; omega
      have HMV := Lib.hid hmv
      obtain ⟨m, hm⟩ : ∃ m : Int, min 2 (n : Int) = m := ⟨_, rfl⟩
      have HIB : Hid (inB s 1 m = (inB s 1 2 && decide (s ≤ (n : Int)))) := by
        unfold Hid inB
        rw [← hm, Bool.eq_iff_iff]
        simp only [Bool.and_eq_true, decide_eq_true_iff]
        omega
      have HE : Hid (transB ps lots s = (inB s 1 m && decide (sumL ps ≤ 60))) := by
        unfold Hid transB; rw [h1, HL1.out, h2, HIB.out, Bool.and_assoc]; rfl
      clear h1 h2 hpv hmv
      cases h3 : inB s 1 m
      · have H3 := Lib.hid h3
        rw [h3] at HE
        clear h3
        go_enter Try.func48, Try.ntmps48
        go_wp2_with fail
        refine (specLots_as _ _ _ lots true _ HL.out H1.out).mono ?_
        rintro e w1 ⟨rfl, hd⟩
        have B1 := Lib.hid (hd.below w.heap.size)
        clear hd
        go_wp2_with fail
        refine (specFits_as _ _ _ ps (n : Int) true _ (HI.out.below B1.out) HS.out H2.out).mono ?_
        rintro e w2 ⟨rfl, hb⟩
        have B2 := Lib.hid (below_on B1.out hb)
        clear hb
        go_wp2_with fail
        refine (l6In_any _ _ _ _).mono ?_
        rintro e w3 ⟨he, rfl⟩
        rw [H3.out] at he
        subst he
        go_wp2
        go_ret
        exact ⟨ret_bool HE.out.symm, B2.out⟩
      · have H3 := Lib.hid h3
        rw [h3] at HE
        clear h3
        obtain ⟨T, hT⟩ : ∃ T, sumL ps = T := ⟨_, rfl⟩
        have HT := Lib.hid hT
        rw [hT] at HE
        clear hT
        go_enter Try.func48, Try.ntmps48
        go_wp2_with fail
        refine (specLots_as _ _ _ lots true _ HL.out H1.out).mono ?_
        rintro e w1 ⟨rfl, hd⟩
        have B1 := Lib.hid (hd.below w.heap.size)
        clear hd
        go_wp2_with fail
        refine (specFits_as _ _ _ ps (n : Int) true _ (HI.out.below B1.out) HS.out H2.out).mono ?_
        rintro e w2 ⟨rfl, hb⟩
        have B2 := Lib.hid (below_on B1.out hb)
        clear hb
        go_wp2_with fail
        refine (l6In_any _ _ _ _).mono ?_
        rintro e w3 ⟨he, rfl⟩
        rw [H3.out] at he
        subst he
        go_wp2_with fail
        refine (l3Total_any _ _ _ ps _ (HI.out.below B2.out) HMV.out).mono ?_
        rintro e w4 ⟨rfl, rfl⟩
        rw [HT.out]
        go_wp2
        go_ret
        exact ⟨ret_bool HE.out.symm, B2.out⟩

set_option maxHeartbeats 2000000 in
/-- **spec.TransferSteps**. -/
theorem specSteps_as (a : Option Addr) (len cap : Nat) (ps : List Pl) (al : Option Addr) (n cl : Nat) (lots : List Int) (s : Int) (all : List TfStp) (v : Bool) (w : World) (h : IsPiles w a len cap ps) (hs : Small ps) (hl : IsInts w al n cl lots) (hv : transB ps lots s = v) (hr : tfAll ps lots s = all) :
    Calls Try.prog 15 #[.slice a len cap, .slice al n cl, .int .i64 s] w (ToldS w n all v) := by
  have HI := Lib.hid h
  have HS := Lib.hid hs
  have HL := Lib.hid hl
  have HL1 := Lib.hid hl.1
  have HV := Lib.hid hv
  clear h hs hl
  cases v
  · have HR : Hid (all = []) := by unfold Hid; rw [← hr, tfAll_no hv]
    clear hv hr
    go_enter Try.func15, Try.ntmps15
    go_wp2_with fail
    refine (ok15_as _ _ _ ps _ _ _ lots s false _ HI.out HS.out HL.out HV.out).mono ?_
    rintro e w1 ⟨rfl, hb⟩
    have O1 : (w1.alloc (.cells #[] 35)).ownsRow w.heap.size 35 3 (.slice (some ⟨w1.heap.size, 0, none⟩) 0 0) 0 [] := World.ownsRow_lit (base := w.heap.size) (e := 35) (size := 3) w1 #[] 0 hb.size (by unfold maxLen; omega) rfl
    have B1 := hb.alloc hb.size (.cells #[] 35)
    have H1 := Lib.hid O1
    have H2 := Lib.hid B1
    clear hb O1 B1
    go_wp2
    go_ret2
    rw [ToldS, HR.out]
    exact ⟨_, _, [], rfl, OwnSt.start H1.out, H2.out⟩
  · obtain ⟨h1, h2, h3, h4, h5⟩ := (transB_iff ps lots s).1 hv
    obtain ⟨S, rfl⟩ := Int.eq_ofNat_of_zero_le (show 0 ≤ s by omega)
    have HA := Lib.hid (trans_arg hv)
    have HR : Hid (tfRun ps lots (quoR (sumL ps) (S : Int)) n (tfStart ps n S) = all) := by unfold Hid; rw [← hr, tfAll_yes hv, HL1.out, Int.toNat_natCast]
    rw [HL1.out] at h2 h4
    have H2 := Lib.hid h2
    clear hv hr h1 h2
    go_enter Try.func15, Try.ntmps15
    go_wp2_with fail
    refine (ok15_as _ _ _ ps _ _ _ lots (S : Int) true _ HI.out HS.out HL.out HV.out).mono ?_
    rintro e w1 ⟨rfl, hb⟩
    have B1 := Lib.hid hb
    clear hb
    go_wp2_with fail
    refine (steps15_as _ _ _ ps _ n _ lots S _ all _ (HI.out.below B1.out) (HL.out.below B1.out) HA.out H2.out ⟨by omega, by omega, by omega⟩ rfl HR.out).mono ?_
    rintro e w2 ⟨ar, cr, gl, rfl, ho, hb⟩
    have O2 := Lib.hid (ho.low B1.out.size)
    have B2 := Lib.hid (below_on B1.out hb)
    clear ho hb
    go_wp2
    go_ret2
    exact ⟨ar, cr, gl, rfl, O2.out, B2.out⟩

end Go.Proofs.Ytafnmongglhlaaa

namespace Go.Proofs.Ytafnmongglhlaaa
open Go.RowKit

attribute [local go_sem] Oper.semAt_some

set_option maxRecDepth 100000 in
set_option maxHeartbeats 4000000 in
/-- **choose**. -/
theorem choose_as (base T : Nat) (R : TR) (ps : List Pl) (lots : List Int) (q : Int) (S : TfS) (m : Nat) (a : Option Addr) (cap n : Nat) (who : Int) (kind : Nat) (w : World) (hT : TS w base T R ps lots q S m) (h : IsFr w a n cap (S.cs ps))
    (A : TfArg ps lots q) (hg : TfGood ps lots S) (hs : 1 ≤ S.s) (hn : lots.length = n) (hw : S.who ps lots q = who) (hk : S.kind ps lots q = kind) :
    Calls Try.prog 113 #[.pointer (some ⟨T, 0, none⟩), .slice a n cap] w fun e w' => e = .returned (.tuple #[.int .i64 who, .int .i64 (kind : Int)]) ∧ Below w.heap.size w w' := by
  have k1 : w.cell? ⟨T, 1, none⟩ = some (.slice (some ⟨R.gs, 0, none⟩) (thereL lots (tfG S.gs)).length R.cs) := blk_cell hT.blk 1
  have k3 : w.cell? ⟨T, 3, none⟩ = some (.int .i64 (S.s : Int)) := blk_cell hT.blk 3
  have k4 : w.cell? ⟨T, 4, none⟩ = some (.int .i64 q) := blk_cell hT.blk 4
  have htl := blk_lt hT.blk
  have hl5 := (lotsB_len A.lots).2
  have HLM : Hid (∀ z ∈ thereL lots (tfG S.gs), 0 ≤ z ∧ z < (n : Int)) := fun z hz => by
    have := A.mem z (there_mem.1 hz).1
    rw [hn] at this; exact this
  have HNE := Lib.hid (hg.ne hs)
  have HCV : Hid (∀ i, i < n → fracB (fAt (S.cs ps) i) = true) := fun i hi => by
    have h1 := hg.valid A hs (z := (i : Int)) (lots_mem A.lots (by rw [hn]; exact hi))
    unfold tfC at h1
    rw [Int.toNat_natCast] at h1
    exact h1
  have hb1r := HLM.out _ (tfBest_mem (least := false) (cs := S.cs ps) HNE.out)
  have hb2r := HLM.out _ (tfBest_mem (least := true) (cs := S.cs ps) HNE.out)
  obtain ⟨b1, hb1e⟩ : ∃ b1, tfBest false (S.cs ps) S.gs lots = b1 := ⟨_, rfl⟩
  obtain ⟨b2, hb2e⟩ : ∃ b2, tfBest true (S.cs ps) S.gs lots = b2 := ⟨_, rfl⟩
  obtain ⟨L, hL⟩ : ∃ L, (thereL lots (tfG S.gs)).length = L := ⟨_, rfl⟩
  have HKI : Hid (kind = if lessF (tfC (S.cs ps) b1) (q, 1) = true then (if L ≤ S.s then 3 else 2) else 1) := by
    unfold Hid; rw [← hk]; unfold TfS.kind tfKind; rw [hb1e, hL]
  have HWI : Hid (who = if kind = 2 then b2 else b1) := by
    unfold Hid; rw [← hw, ← hk]; unfold TfS.who tfWho; rw [hb1e, hb2e]; rfl
  rw [hb1e] at hb1r
  rw [hb2e] at hb2r
  rw [hL] at k1
  have HLL := Lib.hid hL
  have HB1 := Lib.hid hb1e
  have HB2 := Lib.hid hb2e
  obtain ⟨x, rfl⟩ := Int.eq_ofNat_of_zero_le hb1r.1
  obtain ⟨y, rfl⟩ := Int.eq_ofNat_of_zero_le hb2r.1
  have hxn : x < n := by omega
  have hcf : tfC (S.cs ps) (x : Int) = fAt (S.cs ps) x := by unfold tfC fAt; rw [Int.toNat_natCast]
  obtain ⟨c1, c2, hce⟩ : ∃ c1 c2, fAt (S.cs ps) x = (c1, c2) := ⟨_, _, rfl⟩
  rw [hcf, hce] at HKI
  have hcv := HCV.out x hxn
  rw [hce] at hcv
  obtain ⟨v, hvv⟩ : ∃ v, lessF (c1, c2) (q, 1) = v := ⟨_, rfl⟩
  have hqv : fracB (q, 1) = true := fracB_of (by show -9999999 ≤ q ∧ q ≤ 9999999; have := A.qtop; have := A.qpos; omega) (by show 1 ≤ (1 : Int) ∧ (1 : Int) ≤ 9999999; omega) (by unfold gcdI; simp)
  rw [hvv] at HKI
  have HVV := Lib.hid hvv
  have HT := Lib.hid hT
  have HI := Lib.hid h
  obtain ⟨fb, fo, rfl, hfb, c0', c1'⟩ := h.at hxn
  rw [hce] at c0' c1'
  have hS2 := hg.two
  have hLn : L ≤ n := by rw [← hL, ← hn]; exact List.length_filter_le _ _
  clear hT h hb1e hb2e hcf hce hvv hw hk hL
  go_enter Try.func113, Try.ntmps113
  go_wp2_with fail
  refine (greatest_as base T R ps lots q S m _ _ n (S.cs ps) (x : Int) _ HT.out HI.out HLM.out HNE.out hl5 HCV.out HB1.out L HLL.out).mono ?_
  rintro e w1 ⟨rfl, hb⟩
  have u0 : ∀ u : Beh w1, u.w.cell? ⟨fb, fo + x * 2, none⟩ = _ := Beh.cell ((hb.cell (p := ⟨fb, fo + x * 2, none⟩) hfb).trans c0') (Nat.lt_of_lt_of_le hfb hb.size)
  have u1 : ∀ u : Beh w1, u.w.cell? ⟨fb, fo + x * 2 + 1, none⟩ = _ := Beh.cell ((hb.cell (p := ⟨fb, fo + x * 2 + 1, none⟩) hfb).trans c1') (Nat.lt_of_lt_of_le hfb hb.size)
  have u2 : ∀ u : Beh w1, u.w.cell? ⟨T, 4, none⟩ = _ := Beh.cell ((hb.cell (p := ⟨T, 4, none⟩) htl).trans k4) (Nat.lt_of_lt_of_le htl hb.size)
  have B1 := Lib.hid hb
  have htl1 := Nat.lt_of_lt_of_le htl hb.size
  have d1 := (hb.cell (p := ⟨T, 1, none⟩) htl).trans k1
  have d3 := (hb.cell (p := ⟨T, 3, none⟩) htl).trans k3
  have hxi : (x : Int) < (n : Int) := by omega
  clear hb c0' c1' k1 k3 k4
  go_wp2_with fail
  refine wp_region_below (by kernel_rfl) (by kernel_rfl) ?_
  repeat (go_big_quiet_step (first | (go_at_call 53; exact Calls.beh (less_as c1 c2 q 1 v _ hcv hqv HVV.out))))
  refine wpQuiet_nil ?_
  rintro w2 ⟨⟨_, hb2'⟩, he⟩
  have hb2 : Below w1.heap.size w1 w2 := by rw [he]; exact hb2'
  have B2 := Lib.hid (below_on B1.out hb2)
  have e1 := (hb2.cell (p := ⟨T, 1, none⟩) htl1).trans d1
  have e3 := (hb2.cell (p := ⟨T, 3, none⟩) htl1).trans d3
  have htl2 := Nat.lt_of_lt_of_le htl1 hb2.size
  clear u0 u1 u2 hb2 hb2' he d1 d3
  cases v
  · have HK : Hid (kind = 1) := HKI.out
    have HW : Hid (who = (x : Int)) := by unfold Hid; rw [HWI.out, HK.out]; rfl
    clear HKI HWI
    go_wp2
    go_ret2
    exact ⟨by rw [HW.out, HK.out]; rfl, B2.out⟩
  · have HKJ : Hid (kind = if L ≤ S.s then 3 else 2) := HKI.out
    clear HKI
    have v1 : ∀ u : Beh w2, u.w.cell? ⟨T, 1, none⟩ = _ := Beh.cell e1 htl2
    have v3 : ∀ u : Beh w2, u.w.cell? ⟨T, 3, none⟩ = _ := Beh.cell e3 htl2
    by_cases hLs : L ≤ S.s
    · have hd : decide ((L : Int) ≤ (S.s : Int)) = true := decide_eq_true (by omega)
      have HK : Hid (kind = 3) := by unfold Hid; rw [HKJ.out, if_pos hLs]
      have HW : Hid (who = (x : Int)) := by unfold Hid; rw [HWI.out, HK.out]; rfl
      clear HKJ HWI e1 e3
      go_wp2_with fail
      refine wp_region_below (by kernel_rfl) (by kernel_rfl) ?_
      repeat (go_big_quiet_step (fail))
      refine wpQuiet_nil ?_
      rintro w3 ⟨⟨_, hb3'⟩, he⟩
      have hb3 : Below w2.heap.size w2 w3 := by rw [he]; exact hb3'
      have B3 := Lib.hid (below_on B2.out hb3)
      clear v1 v3 hb3 hb3' he
      go_wp2
      go_ret2
      exact ⟨by rw [HW.out, HK.out]; rfl, B3.out⟩
    · have hd : decide ((L : Int) ≤ (S.s : Int)) = false := decide_eq_false (by omega)
      have HK : Hid (kind = 2) := by unfold Hid; rw [HKJ.out, if_neg hLs]
      have HW : Hid (who = (y : Int)) := by unfold Hid; rw [HWI.out, HK.out]; rfl
      clear HKJ HWI e1 e3
      go_wp2_with fail
      refine wp_region_below (by kernel_rfl) (by kernel_rfl) ?_
      repeat (go_big_quiet_step (fail))
      refine wpQuiet_nil ?_
      rintro w3 ⟨⟨_, hb3'⟩, he⟩
      have hb3 : Below w2.heap.size w2 w3 := by rw [he]; exact hb3'
      have B3 := Lib.hid (below_on B2.out hb3)
      clear v1 v3 hb3 hb3' he
      go_wp2_with fail
      refine (least_as base T R ps lots q S m _ _ n (S.cs ps) (y : Int) _ (HT.out.under B3.out) (HI.out.below B3.out) HLM.out HNE.out hl5 HCV.out HB2.out).mono ?_
      rintro e w4 ⟨rfl, hb4⟩
      have B4 := Lib.hid (below_on B3.out hb4)
      go_wp2
      go_ret2
      exact ⟨by rw [HW.out, HK.out]; rfl, B4.out⟩

end Go.Proofs.Ytafnmongglhlaaa

namespace Go.Proofs.Ytafnmongglhlaaa
open Go.RowKit

theorem ints_one (zs : List Int) : ∀ u ∈ zs.map (Value.int .i64), u.oneCell' = true := by
  intro u hu
  obtain ⟨z, _, rfl⟩ := List.mem_map.1 hu
  simp [Value.oneCell']

/-- The cells behind a piece of a slice of ints: from off + p on, the first m of what is left. -/
theorem piece_cells {w : World} {b off len : Nat} {zs : List Int} (hz : zs.length = len) (hc : ∀ j, j < len → w.cell? ⟨b, off + j, none⟩ = some (.int .i64 (zs[j]?.getD 0))) (p m q : Nat) (hpm : p + m ≤ len) (hq : q = off + p) :
    ∀ j u, (((zs.drop p).take m).map (Value.int .i64))[j]? = some u → w.cell? ((⟨b, q, none⟩ : Addr).add j) = some u := by
  intro j u hj
  have hjm : j < m := by
    rcases Nat.lt_or_ge j m with h | h
    · exact h
    · rw [List.getElem?_eq_none (by simp; omega)] at hj; cases hj
  have hadd : (⟨b, q, none⟩ : Addr).add j = ⟨b, off + (p + j), none⟩ := by
    subst hq
    by_cases h : j = 0
    · subst h; simp [Addr.add]
    · simp [Addr.add, h]; omega
  rw [hadd, hc (p + j) (by omega)]
  rw [List.getElem?_map, List.getElem?_take_of_lt hjm, List.getElem?_drop] at hj
  have hlt : p + j < zs.length := by omega
  rw [List.getElem?_eq_getElem hlt] at hj ⊢
  simpa using hj

/-- .. all that is left from p on. -/
theorem piece_rest {w : World} {b off len : Nat} {zs : List Int} (hz : zs.length = len) (hc : ∀ j, j < len → w.cell? ⟨b, off + j, none⟩ = some (.int .i64 (zs[j]?.getD 0))) (p q : Nat) (hp : p ≤ len) (hq : q = off + p) :
    ∀ j u, ((zs.drop p).map (Value.int .i64))[j]? = some u → w.cell? ((⟨b, q, none⟩ : Addr).add j) = some u := by
  have h := piece_cells hz hc p (len - p) q (by omega) hq
  have e : (zs.drop p).take (len - p) = zs.drop p := List.take_of_length_le (by simp; omega)
  rwa [e] at h
theorem rest_none {zs : List Int} {p : Nat} (hp : zs.length ≤ p) : ∀ (j : Nat) (u : Value), ((zs.drop p).map (Value.int .i64))[j]? = some u → False := by
  intro j u h
  rw [List.drop_of_length_le hp] at h
  simp at h
theorem joined {w : World} {base n c : Nat} {a : Option Addr} {A B : List Int} (h : w.ownsRow base 3 1 (.slice a n c) n (A.map (Value.int .i64) ++ B.map (Value.int .i64))) (hn : n ≤ 1048600) : IsInts w a n c (A ++ B) := by
  refine IsInts.of_owned (base := base) ?_ hn
  rw [List.map_append]
  exact h

/-- An append to a new slice leaves the cells of an older block as they were. -/
theorem kept_cells {w w5 : World} {t : TypeId} {g off len n c : Nat} {zs : List Int} (hg : g < w.heap.size) (h : (w.alloc (.cells #[] t)).drew.grownBy w5 (Value.slice (some ⟨w.heap.size, 0, none⟩) n c).ownBlock)
    (hc : ∀ j, j < len → w.cell? ⟨g, off + j, none⟩ = some (.int .i64 (zs[j]?.getD 0))) : ∀ j, j < len → w5.cell? ⟨g, off + j, none⟩ = some (.int .i64 (zs[j]?.getD 0)) := fun j hj =>
  (World.cell?_of_block (w := w) ((h.block g (by show g < (w.alloc _).heap.size; simp; omega) (fun e => by
    have : (some g : Option Nat) = some w.heap.size := e
    injection this with e2
    omega)).trans (Below.heap_alloc w _ g hg))).trans (hc j hj)
theorem kept_below {w w5 : World} {t : TypeId} {n c : Nat} (h : (w.alloc (.cells #[] t)).drew.grownBy w5 (Value.slice (some ⟨w.heap.size, 0, none⟩) n c).ownBlock) : Below w.heap.size w w5 :=
  ((Below.refl w.heap.size w).alloc (Nat.le_refl _) _).drew.grown h (by show w.heap.size ≤ (w.alloc _).heap.size; simp) (fun k e => by
    have : (some w.heap.size : Option Nat) = some k := e
    injection this with e2
    omega)

end Go.Proofs.Ytafnmongglhlaaa

namespace Go.Proofs.Ytafnmongglhlaaa
open Go.RowKit

/-- The blocks of two slices are not the same. -/
def Apart (v v' : Value) : Prop := ∀ j, v.ownBlock = some j → v'.ownBlock ≠ some j
theorem kept_apart {w w' : World} {base n size : Nat} {e : TypeId} {v u : Value} {xs : List Value} (h : w.ownsRow base e size v n xs) (hg : w.grownBy w' u.ownBlock) (ha : Apart u v) : w'.ownsRow base e size v n xs := by
  refine h.kept hg ?_
  cases hb : v.ownBlock with
  | none => exact .inl rfl
  | some j => right; intro e2; exact ha j e2.symm hb
theorem lotsRow_low {w : World} {base base' n size : Nat} {e : TypeId} {v : Value} {xs : List Value} (h : w.ownsRow base e size v n xs) (hb : base' ≤ base) : w.ownsRow base' e size v n xs := by
  refine ⟨h.1, ?_⟩
  rcases h.2 with hn | ⟨g, cap, cur, h1, h2, h3⟩
  · exact .inl hn
  · exact .inr ⟨g, cap, cur, h1, Nat.le_trans hb h2, h3⟩
theorem owned_at {w : World} {base n : Nat} {a : Option Addr} {cap : Nat} {xs : List Value} (h : w.ownsRow base 3 1 (.slice a n cap) n xs) (hn : 0 < n) : ∃ g, a = some ⟨g, 0, none⟩ ∧ g < w.heap.size ∧ n ≤ cap ∧ cap ≤ maxLen := by
  rcases h.2 with ⟨_, e0⟩ | ⟨g, c, cur, e, _, hg, h1, h2, _⟩
  · omega
  · injection e with e1 _ e3
    subst e3
    exact ⟨g, e1, (Array.getElem?_eq_some_iff.1 hg).1, h1, h2⟩
theorem erase_parts (rest : List Int) (k : Nat) : rest.take k ++ rest.drop (k + 1) = rest.eraseIdx k := (List.eraseIdx_eq_take_drop_succ rest k).symm

/-- The length of a slice's value. -/
def sliceLen : Value → Nat
  | .slice _ n _ => n
  | _ => 0

/-- What the drawing loop keeps: those that are left, the lots drawn, in two blocks of the call's own. -/
def LotInv (w : World) (k s : Nat) (sv rv lv : Value) (wr : World) : Prop := ∃ (sd : Nat) (rest out : List Int) (a : Option Addr) (cap : Nat) (a2 : Option Addr) (cap2 : Nat), sd ≤ 999 ∧ sv = .int .i64 (sd : Int) ∧ rv = .slice a rest.length cap ∧ lv = .slice a2 out.length cap2 ∧ rest.length ≤ 5 ∧ out.length + rest.length = k ∧
  Hid (out ++ lotR rest sd = lotsOf k s) ∧ Hid (wr.ownsRow w.heap.size 3 1 (.slice a rest.length cap) rest.length (rest.map (Value.int .i64))) ∧ Hid (wr.ownsRow w.heap.size 3 1 (.slice a2 out.length cap2) out.length (out.map (Value.int .i64))) ∧ Hid (Apart (.slice a2 out.length cap2) (.slice a rest.length cap)) ∧ Below w.heap.size w wr

set_option maxRecDepth 100000 in
set_option maxHeartbeats 4000000 in
/-- **spec.LotsOf**, at a number of candidates and a seed in range. -/
theorem specLotsOf_yes (n s : Nat) (w : World) (hn1 : 1 ≤ n) (hn5 : n ≤ 5) (hs : s ≤ 999) :
    Calls Try.prog 106 #[.int .i64 (n : Int), .int .i64 (s : Int)] w fun e w' => ∃ a cap, e = .returned (.tuple #[.slice a n cap, .bool true]) ∧ w'.ownsRow w.heap.size 3 1 (.slice a n cap) n ((lotsOf n s).map (Value.int .i64)) ∧ Below w.heap.size w w' := by
  obtain ⟨i0, hi, hz0, hz1, hz2⟩ := info_parts int_info
  have H1 := Lib.hid (inB_yes (x := (n : Int)) (lo := 1) (hi := 5) (by omega) (by omega))
  have H2 := Lib.hid (inB_yes (x := (s : Int)) (lo := 0) (hi := 999) (by omega) (by omega))
  have HE0 := Lib.hid (World.ownsRow_lit (base := w.heap.size) (e := 3) (size := 1) w #[] 0 (Nat.le_refl _) (by unfold maxLen; omega) rfl)
  have HB0 : Below w.heap.size w (w.alloc (.cells #[] 3)) := (Below.refl _ w).alloc (Nat.le_refl _) _
  go_enter Try.func106, Try.ntmps106
  go_wp2_with fail
  refine (l6In_any _ _ _ _).mono ?_
  rintro e w' ⟨he, rfl⟩
  rw [H1.out] at he
  subst he
  go_wp2_with fail
  refine (l6In_any _ _ _ _).mono ?_
  rintro e w' ⟨he, rfl⟩
  rw [H2.out] at he
  subst he
  go_wp2
  go_loopw [6, 7] (fun rv iv wr => ∃ (k : Nat) (a : Option Addr) (cap : Nat), k ≤ n ∧ iv = .int .i64 (k : Int) ∧ rv = .slice a k cap ∧ Hid (wr.ownsRow w.heap.size 3 1 (.slice a k cap) k ((fromZero k).map (Value.int .i64))) ∧ Below w.heap.size w wr) (fun _ iv _ => n - (intOf iv).toNat)
  case atStart => exact ⟨0, _, _, Nat.zero_le _, rfl, rfl, HE0.out, HB0⟩
  case round =>
    obtain ⟨k, a, cap, hk, rfl, rfl, ho, hB⟩ := hrel
    by_cases hlt : k < n
    · go_wp2_with (at_builtin; refine wpList_append_own _ rfl _ _ 24 rfl w.heap.size 3 i0 (.int .i64 0) 1 8 Try.underlying24 hi hz0 hz1 hz2 rfl (by decide) _ _ _ rfl (ho.out.alloc _) ⟨wr.heap.size, 0, none⟩ 1 1 [.int .i64 (k : Int)] rfl rfl (cell_one_new _ _ _) (by simp [Value.oneCell']) (by unfold maxLen; omega) (by omega) (by have := hB.size; simp; omega) ?_; intro v' w4 hown' hgrow _; obtain ⟨a4, cap4, rfl⟩ := owns_slice hown')
      have hrow : ∀ j, (Value.slice a k cap).ownBlock = some j → w.heap.size ≤ j := fun j ej => (ho.out.lt j ej).1
      have hB4 := (hB.alloc hB.size (.cells #[.int .i64 (k : Int)] 3)).grown hgrow (by have := hB.size; simp; omega) (fun j e => hrow j e)
      have HO4 : Hid (w4.ownsRow w.heap.size 3 1 (.slice a4 (k + 1) cap4) (k + 1) ((fromZero (k + 1)).map (Value.int .i64))) := by
        unfold Hid; rw [fromZero_succ, List.map_append]; exact hown'
      clear hown' hgrow hrow
      go_wp2
      go_roundw
      case rel => exact ⟨k + 1, a4, cap4, by omega, by go_num, rfl, HO4.out, hB4⟩
      case measure => simp [intOf]; omega
    · obtain rfl : k = n := by omega
      have HR : Hid ((fromZero k).length = k) := fromZero_length k
      have HRE := Lib.hid (ho.out.alloc (.cells #[] 3))
      have hlt0 : Hid (∀ j, (Value.slice a k cap).ownBlock = some j → j < wr.heap.size) := fun j ej => (ho.out.lt j ej).2
      have hsz := hB.size
      have HOE := Lib.hid (World.ownsRow_lit (base := w.heap.size) (e := 3) (size := 1) wr #[] 0 hsz (by unfold maxLen; omega) rfl)
      have hB1 := hB.alloc hsz (.cells #[] 3)
      go_wp2
      go_loopw [1, 6, 8, 9] (fun sv rv lv kv wr => LotInv w k s sv rv lv wr) (fun _ rv _ _ _ => sliceLen rv)
      case atStart =>
        unfold LotInv
        refine ⟨s, fromZero k, [], a, cap, _, _, hs, rfl, by rw [HR.out], rfl, by rw [HR.out]; exact hn5, by rw [HR.out]; simp, ?_, ?_, HOE.out, ?_, hB1⟩
        · unfold Hid; rw [lotR_all]; rfl
        · unfold Hid; rw [HR.out]; exact HRE.out
        · intro j h1 h2
          have e1 : j < wr.heap.size := hlt0.out j (by rw [HR.out] at h2; exact h2)
          have h1 : some wr.heap.size = some j := h1
          injection h1 with h1
          omega
      case round =>
        clear HR HRE HOE hlt0 hB1 hsz ho hB
        obtain ⟨sd, rest, out, a, cap, a2, cap2, hsd, rfl, rfl, rfl, hr5, hsum, hall, ho, ho2, hap, hB⟩ := hrel
        by_cases hlt : 0 < rest.length
        · obtain ⟨g, rfl, hgw, hcap, hmx⟩ := owned_at ho.out hlt
          have hgt : decide (0 < (rest.length : Int)) = true := decide_eq_true (by omega)
          have hkz : ((rest.length : Int) == 0) = false := beq_eq_false_iff_ne.2 (by omega)
          obtain ⟨q, hqe⟩ : ∃ q, sd % rest.length = q := ⟨_, rfl⟩
          obtain ⟨d, hde⟩ : ∃ d, sd / rest.length = d := ⟨_, rfl⟩
          have hqk : q < rest.length := by rw [← hqe]; exact Nat.mod_lt sd hlt
          have hd9 : d ≤ sd := by rw [← hde]; exact Nat.div_le_self sd _
          have hq : ((sd : Int) % (rest.length : Int)) = (q : Int) := by rw [← hqe]; exact (Int.natCast_emod sd rest.length).symm
          have hdv : ((sd : Int) / (rest.length : Int)) = (d : Int) := by rw [← hde]; exact (Int.natCast_ediv sd rest.length).symm
          have HST := Lib.hid (lotR_step (rest := rest) rfl (by omega) sd)
          rw [hqe, hde] at HST
          have HEL := Lib.hid (erase_length (rest := rest) rfl hqk)
          have hcz := ho.out.cellAt q (by omega)
          obtain ⟨z, hz⟩ : ∃ z, rest[q]?.getD 0 = z := ⟨_, rfl⟩
          have HZ := Lib.hid hz
          have hcell : wr.cell? ⟨g, q, none⟩ = some (.int .i64 z) := by
            rw [hcz, ← hz]; simp [hqk]
          clear hcz hz hqe hde
          go_wp2_with (at_builtin; refine wpList_append_own _ rfl _ _ 24 rfl w.heap.size 3 i0 (.int .i64 0) 1 8 Try.underlying24 hi hz0 hz1 hz2 rfl (by decide) _ _ _ rfl (ho2.out.alloc _) ⟨wr.heap.size, 0, none⟩ 1 1 [.int .i64 z] rfl rfl (cell_one_new _ _ _) (by simp [Value.oneCell']) (by unfold maxLen; omega) (by omega) (by have := hB.size; simp; omega) ?_; intro v' w4 hown' hgrow _; obtain ⟨a4, cap4, rfl⟩ := owns_slice hown')
          have hrow : ∀ j, (Value.slice a2 out.length cap2).ownBlock = some j → w.heap.size ≤ j := fun j ej => (ho2.out.lt j ej).1
          have hB4 := (hB.alloc hB.size (.cells #[.int .i64 z] 3)).grown hgrow (by have := hB.size; simp; omega) (fun j e => hrow j e)
          have O3 : Hid (w4.ownsRow w.heap.size 3 1 (.slice (some ⟨g, 0, none⟩) rest.length cap) rest.length (rest.map (Value.int .i64))) := kept_apart (ho.out.alloc _) hgrow hap.out
          have HO4 : Hid (w4.ownsRow w.heap.size 3 1 (.slice a4 (out.length + 1) cap4) (out.length + 1) ((out ++ [z]).map (Value.int .i64))) := by
            unfold Hid; rw [List.map_append]; exact hown'
          have hg4 : g < w4.heap.size := (O3.out.lt g rfl).2
          have hcs : Hid (∀ j, j < rest.length → w4.cell? ⟨g, 0 + j, none⟩ = some (.int .i64 (rest[j]?.getD 0))) := fun j hj => by
            rw [Nat.zero_add, O3.out.cellAt j (by omega)]; simp [hj]
          have hE : Hid ((w4.alloc (.cells #[] 3)).drew.ownsRow w4.heap.size 3 1 (.slice (some ⟨w4.heap.size, 0, none⟩) 0 0) 0 []) := (World.ownsRow_lit (base := w4.heap.size) (e := 3) (size := 1) w4 #[] 0 (Nat.le_refl _) (by unfold maxLen; omega) rfl).drew
          clear hown' hgrow hrow ho ho2 hap hB hcell
          go_wp2
          have hqc : q ≤ cap := by omega
          have hq1 : q + 1 ≤ rest.length := by omega
          have hk1i : (q : Int) + 1 ≤ (rest.length : Int) := by omega
          have hk0 : (0 : Int) ≤ (q : Int) + 1 := by omega
          have hzci : (rest.length : Int) ≤ (cap : Int) := by omega
          have L1 : Hid (((rest.take q).map (Value.int .i64)).length = q * 1) := by unfold Hid; simp; omega
          have L2 : Hid (((rest.drop (q + 1)).map (Value.int .i64)).length = (rest.length - (q + 1)) * 1) := by unfold Hid; simp
          have P1 : Hid (∀ j u, ((rest.take q).map (Value.int .i64))[j]? = some u → (w4.alloc (.cells #[] 3)).drew.cell? ((⟨g, 0, none⟩ : Addr).add j) = some u) :=
            piece_cells (zs := rest) (len := rest.length) (off := 0) rfl (fun j hj => (((Below.refl w4.heap.size w4).alloc (Nat.le_refl _) _).drew.cell (p := ⟨g, 0 + j, none⟩) hg4).trans (hcs.out j hj)) 0 q 0 (by omega) rfl
          have M1 : 0 + q ≤ maxLen := by unfold maxLen; omega
          have N1 : (0 + q) * 8 ≤ 140737488355328 := by omega
          have S1 : w4.heap.size ≤ (w4.alloc (.cells #[] 3)).drew.heap.size := by simp
          have M2 : q + (rest.length - (q + 1)) ≤ maxLen := by unfold maxLen; omega
          have N2 : (q + (rest.length - (q + 1))) * 8 ≤ 140737488355328 := by omega
          have M2e : q + 0 ≤ maxLen := by unfold maxLen; omega
          have N2e : (q + 0) * 8 ≤ 140737488355328 := by omega
          by_cases hck : cap = q + 1
          · subst hck
            have hzl : rest.length ≤ q + 1 := by omega
            have L2e : Hid (((rest.drop (q + 1)).map (Value.int .i64)).length = 0 * 1) := by unfold Hid; simp; omega
            have PE := Lib.hid (rest_none hzl)
            have hkci : (q : Int) ≤ (q : Int) + 1 := by omega
            have hkcc : (q : Int) + 1 ≤ (q : Int) + 1 := by omega
            have hzk : (rest.length : Int) ≤ (q : Int) + 1 := by omega
            have hw1 : IntKind.i64.wrap ((q : Int) + 1) = (q : Int) + 1 := IntWalk.i64_in _ (by omega)
            have ht1 : ((q : Int) + 1).toNat = q + 1 := by omega
            go_region_law (first
              | (refine step_append_own (by rfl) _ _ _ (by rfl) w4.heap.size 3 i0 (.int .i64 0) 1 8 Try.underlying24 hi hz0 hz1 hz2 rfl Nat.one_pos (.slice (some ⟨w4.heap.size, 0, none⟩) 0 0) 0 [] (by rfl) hE.out ⟨g, 0, none⟩ q _ ((rest.take q).map (Value.int .i64)) (by rfl) L1.out P1.out (ints_one _) M1 N1 S1 ?_; intro v5 w5 hown5 hgrow5 _; simp only [Nat.zero_add, List.nil_append] at hown5; obtain ⟨a5, c5, rfl⟩ := owns_slice hown5; have C5 := Lib.hid (kept_cells hg4 hgrow5 hcs.out); have B5 := Lib.hid (kept_below hgrow5); have O5 := Lib.hid hown5; clear hown5 hgrow5)
              | (refine step_append_own (by rfl) _ _ _ (by rfl) w4.heap.size 3 i0 (.int .i64 0) 1 8 Try.underlying24 hi hz0 hz1 hz2 rfl Nat.one_pos (.slice a5 q c5) q ((rest.take q).map (Value.int .i64)) (by rfl) O5.out ⟨g, 0, none⟩ 0 _ ((rest.drop (q + 1)).map (Value.int .i64)) (by rfl) L2e.out (fun j u h => (PE.out j u h).elim) (ints_one _) M2e N2e B5.out.size ?_; intro v6 w6 hown6 hgrow6 _; obtain ⟨a6, c6, rfl⟩ := owns_slice hown6; have B6 := Lib.hid (B5.out.grown hgrow6 B5.out.size (fun j ej => (O5.out.lt j ej).1)); have X6 := Lib.hid hown6; clear hown6 hgrow6))
            all_goals
              clear hw1 ht1
              have O6 := Lib.hid (lotsRow_low (owns_under HO4.out B6.out) (Nat.le_refl _))
              have hB6 := hB4.trans (B6.out.mono hB4.size)
              have hap6 : Hid (Apart (.slice a4 (out.length + 1) cap4) (.slice a6 (q + 0) c6)) := by
                intro j h1 h2
                have e1 := (HO4.out.lt j h1).2
                have e2 := (X6.out.lt j h2).1
                omega
              have X7 := Lib.hid (lotsRow_low X6.out hB4.size)
              have hinv : LotInv w k s (.int .i64 (d : Int)) (.slice a6 (q) c6) (.slice a4 (out.length + 1) cap4) w6 := by
                unfold LotInv
                refine ⟨d, rest.eraseIdx q, out ++ [z], a6, c6, a4, cap4, by omega, rfl, ?g1, ?g2, ?g3, ?g4, ?g5, ?g6, ?g7, ?g8, hB6⟩
                case g1 => rw [HEL.out, show rest.length - 1 = q by omega]
                case g2 => rw [List.length_append]; rfl
                case g3 => rw [HEL.out]; omega
                case g4 => rw [HEL.out, List.length_append, List.length_singleton]; omega
                case g5 => unfold Hid; rw [← hall.out, HST.out, HZ.out, List.append_assoc]; rfl
                case g6 => unfold Hid; rw [HEL.out, ← erase_parts, List.map_append]; have := X7.out; rwa [show rest.length - 1 = q + 0 by omega]
                case g7 => unfold Hid; rw [List.length_append]; exact O6.out
                case g8 => unfold Hid; rw [HEL.out, List.length_append, show rest.length - 1 = q + 0 by omega]; exact hap6.out
              have HINV := Lib.hid hinv
              have hms : q < rest.length := by omega
              clear hinv X6 X7 hap6 O6 B6
              go_wp2
              go_roundw
              case rel => exact ⟨_, _, _, HINV.out, rfl, rfl, rfl⟩
              case measure => simpa [sliceLen] using hms
          · have hkci : (q : Int) ≤ (cap : Int) := by omega
            have hkcc : (q : Int) + 1 ≤ (cap : Int) := by omega
            have hck2 : ¬ cap = q := by omega
            have hw1 : IntKind.i64.wrap ((q : Int) + 1) = (q : Int) + 1 := IntWalk.i64_in _ (by omega)
            have ht1 : ((q : Int) + 1).toNat = q + 1 := by omega
            go_region_law (first
              | (refine step_append_own (by rfl) _ _ _ (by rfl) w4.heap.size 3 i0 (.int .i64 0) 1 8 Try.underlying24 hi hz0 hz1 hz2 rfl Nat.one_pos (.slice (some ⟨w4.heap.size, 0, none⟩) 0 0) 0 [] (by rfl) hE.out ⟨g, 0, none⟩ q _ ((rest.take q).map (Value.int .i64)) (by rfl) L1.out P1.out (ints_one _) M1 N1 S1 ?_; intro v5 w5 hown5 hgrow5 _; simp only [Nat.zero_add, List.nil_append] at hown5; obtain ⟨a5, c5, rfl⟩ := owns_slice hown5; have C5 := Lib.hid (kept_cells hg4 hgrow5 hcs.out); have B5 := Lib.hid (kept_below hgrow5); have O5 := Lib.hid hown5; clear hown5 hgrow5)
              | (refine step_append_own (by rfl) _ _ _ (by rfl) w4.heap.size 3 i0 (.int .i64 0) 1 8 Try.underlying24 hi hz0 hz1 hz2 rfl Nat.one_pos (.slice a5 q c5) q ((rest.take q).map (Value.int .i64)) (by rfl) O5.out ⟨g, q + 1, none⟩ (rest.length - (q + 1)) _ ((rest.drop (q + 1)).map (Value.int .i64)) (by rfl) L2.out (piece_rest rfl C5.out (q + 1) (q + 1) hq1 (Nat.zero_add _).symm) (ints_one _) M2 N2 B5.out.size ?_; intro v6 w6 hown6 hgrow6 _; obtain ⟨a6, c6, rfl⟩ := owns_slice hown6; have B6 := Lib.hid (B5.out.grown hgrow6 B5.out.size (fun j ej => (O5.out.lt j ej).1)); have X6 := Lib.hid hown6; clear hown6 hgrow6))
            all_goals
              clear hw1 ht1
              obtain ⟨m, hm⟩ : ∃ m, q + (rest.length - (q + 1)) = m := ⟨_, rfl⟩
              rw [hm] at X6 ⊢
              have hmr : rest.length - 1 = m := by omega
              have hms : m < rest.length := by omega
              have O6 := Lib.hid (lotsRow_low (owns_under HO4.out B6.out) (Nat.le_refl _))
              have hB6 := hB4.trans (B6.out.mono hB4.size)
              have hap6 : Hid (Apart (.slice a4 (out.length + 1) cap4) (.slice a6 m c6)) := by
                intro j h1 h2
                have e1 := (HO4.out.lt j h1).2
                have e2 := (X6.out.lt j h2).1
                omega
              have X7 := Lib.hid (lotsRow_low X6.out hB4.size)
              have hinv : LotInv w k s (.int .i64 (d : Int)) (.slice a6 m c6) (.slice a4 (out.length + 1) cap4) w6 := by
                unfold LotInv
                refine ⟨d, rest.eraseIdx q, out ++ [z], a6, c6, a4, cap4, by omega, rfl, ?g1, ?g2, ?g3, ?g4, ?g5, ?g6, ?g7, ?g8, hB6⟩
                case g1 => rw [HEL.out, hmr]
                case g2 => rw [List.length_append]; rfl
                case g3 => rw [HEL.out]; omega
                case g4 => rw [HEL.out, List.length_append, List.length_singleton]; omega
                case g5 => unfold Hid; rw [← hall.out, HST.out, HZ.out, List.append_assoc]; rfl
                case g6 => unfold Hid; rw [HEL.out, ← erase_parts, List.map_append]; have := X7.out; rwa [hmr]
                case g7 => unfold Hid; rw [List.length_append]; exact O6.out
                case g8 => unfold Hid; rw [HEL.out, List.length_append, hmr]; exact hap6.out
              have HINV := Lib.hid hinv
              clear hinv X6 X7 hap6 O6 B6 hmr hm hck2 hkci hkcc hck hzci hk1i hk0 M1 N1 S1 M2 N2 M2e N2e L1 L2 P1 hqc hq1
              simp only [List.getElem_toArray, List.getElem_cons_succ, List.getElem_cons_zero, Act.put, List.setIfInBounds_toArray, List.set_cons_succ, List.set_cons_zero]
              go_wp2
              go_roundw
              case rel => exact HINV.out
              case measure => simpa [sliceLen] using hms
        · have hr0 : rest = [] := List.length_eq_zero_iff.1 (by omega)
          subst hr0
          have HL : Hid (out = lotsOf k s) := by
            have h2 := hall.out
            rw [lotR_nil, List.append_nil] at h2
            exact h2
          have hok : out.length = k := by simpa using hsum
          go_wp2
          go_ret2
          refine ⟨a2, cap2, by first | rfl | (rw [← hok]; rfl), ?_, hB⟩
          rw [← HL.out, ← hok]
          exact ho2.out

set_option maxHeartbeats 1000000 in
/-- **spec.LotsOf**, at arguments out of range. -/
theorem specLotsOf_no (n s : Int) (w : World) (h : okLots n s = false) :
    Calls Try.prog 106 #[.int .i64 n, .int .i64 s] w fun e w' => e = .returned (.tuple #[.slice (some ⟨w.heap.size, 0, none⟩) 0 0, .bool false]) ∧ w' = w.alloc (.cells #[] 3) := by
  cases hn : inB n 1 5
  · have HN := Lib.hid hn; clear hn h
    go_enter Try.func106, Try.ntmps106
    go_wp2_with fail
    refine (l6In_any _ _ _ _).mono ?_
    rintro e w' ⟨he, rfl⟩
    rw [HN.out] at he
    subst he
    go_wp2
    go_ret2
    exact ⟨rfl, rfl⟩
  · have hs : inB s 0 999 = false := by rw [okLots, hn, Bool.true_and] at h; exact h
    have HN := Lib.hid hn
    have HS := Lib.hid hs; clear hn hs h
    go_enter Try.func106, Try.ntmps106
    go_wp2_with fail
    refine (l6In_any _ _ _ _).mono ?_
    rintro e w' ⟨he, rfl⟩
    rw [HN.out] at he
    subst he
    go_wp2_with fail
    refine (l6In_any _ _ _ _).mono ?_
    rintro e w' ⟨he, rfl⟩
    rw [HS.out] at he
    subst he
    go_wp2
    go_ret2
    exact ⟨rfl, rfl⟩

/-- **spec.LotsOf**. -/
theorem specLotsOf_any (n s : Int) (w : World) :
    Calls Try.prog 106 #[.int .i64 n, .int .i64 s] w (Told w (lotsI n s) (okLots n s)) := by
  cases h : okLots n s
  · refine (specLotsOf_no n s w h).mono ?_
    rintro e w' ⟨rfl, rfl⟩
    rw [lotsI_no h]
    exact ⟨_, 0, rfl, World.ownsRow_lit w #[] 0 (Nat.le_refl _) (by unfold maxLen; omega) rfl, (Below.refl _ w).alloc (Nat.le_refl _) _⟩
  · have hh := okLots_of h
    obtain ⟨m, rfl⟩ := Int.eq_ofNat_of_zero_le (show 0 ≤ n by omega)
    obtain ⟨q, rfl⟩ := Int.eq_ofNat_of_zero_le (show 0 ≤ s by omega)
    refine (specLotsOf_yes m q w (by omega) (by omega) (by omega)).mono ?_
    rintro e w' ⟨a, cap, rfl, ho, hb⟩
    have hl : (lotsI (m : Int) (q : Int)).length = m := by rw [lotsI_yes h, lotsOf_length, Int.toNat_natCast]
    refine ⟨a, cap, by rw [hl], ?_, hb⟩
    rw [hl, lotsI_yes h]; exact ho

/-- **spec.LotsOf**, its answer named. -/
theorem specLotsOf_as (n s : Int) (pl : List Int) (ok : Bool) (w : World) (h1 : lotsI n s = pl) (h2 : okLots n s = ok) :
    Calls Try.prog 106 #[.int .i64 n, .int .i64 s] w (Told w pl ok) := by
  subst h1; subst h2; exact specLotsOf_any n s w

end Go.Proofs.Ytafnmongglhlaaa
