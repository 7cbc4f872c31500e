/-
  impl.SeatsQuota and impl.SeatsFair: contracts at all arguments. It writes into no memory that was there.
-/
import Derived.Test.YtmbhcgdapglbgaaGrp14
import Derived.Test.YtmbhcgdapglbgaaGrp9
import Derived.Deep.RegionHeld3
import Derived.Deep.RegionLaw
import Derived.Deep.Cut
import Derived.Deep.CutRange
namespace Go.Proofs.Ytmbhcgdapglbgaa
open Go.RowKit

attribute [local go_sem] Oper.semAt_some

/-- Behind the region: a block of the region's own holds the pair, nothing that was there has turned. -/
def MadeP (W0 : World) (x y : Int) (s5 : Value) (wx : World) : Prop := ∃ p, s5 = .pointer (some ⟨p, 0, none⟩) ∧ Two wx p x y ∧ Below W0.heap.size W0 wx
theorem madeP_old {W0 w3 : World} {x y u v : Int} {p : Nat} (hN : Two w3 p u v) (hC : Below W0.heap.size W0 w3) (hp : W0.heap.size ≤ p) :
    MadeP W0 x y (.pointer (some ⟨p, 0, none⟩)) ((w3.setCell ⟨p, 0, none⟩ (.int .i64 x)).setCell ⟨p, 1, none⟩ (.int .i64 y)) :=
  ⟨p, rfl, ⟨by simpa [World.setCell] using hN.lt, by rw [World.cell?_setCell_other _ _ _ _ (by intro e; injection e with _ e2; exact absurd e2 (by decide))]; exact hN.set0 _, hN.set1 _ _, by simpa using hN.f0, by simpa using hN.f1⟩, below_set2 hC hp _ _⟩
theorem madeP_new {W0 w3 : World} {x y : Int} {t : TypeId} (hC : Below W0.heap.size W0 w3) :
    MadeP W0 x y (.pointer (some ⟨w3.heap.size, 0, none⟩)) (w3.alloc (.cells #[.int .i64 x, .int .i64 y] t)) :=
  ⟨_, rfl, Two.new _ _ _ _, below_more hC _⟩

set_option maxRecDepth 100000 in
set_option maxHeartbeats 8000000 in
/-- **impl.SeatsQuota**, at valid arguments. -/
theorem implQuo_yes (a : Option Addr) (n cap : Nat) (vs : List Int) (s : Int) (q : Nat) (x r : Int) (w : World) (h : IsInts w a n cap vs) (hk : okQ vs s (q : Int) = true) (hx : loF vs s (q : Int) = x) (hr : hiF vs s (q : Int) = r) :
    Calls Try.prog 21 #[.slice a n cap, .int .i64 s, .int .i64 (q : Int)] w fun e w' => e = .returned (.tuple #[.int .i64 x, .int .i64 r]) ∧ Below w.heap.size w w' := by
  obtain ⟨k1, k2, k3, k4⟩ := (okQ_iff vs s (q : Int)).1 hk
  have hnv := h.1
  rw [hnv] at k4
  have hsi := share_in k1 k2 (z := (q : Int)) k3 (by rw [hnv]; exact k4)
  have hhi := hi_eq (vs := vs) (s := s) k1 (q : Int)
  obtain ⟨⟨x1, x2, x3⟩, -⟩ := (voteB_iff vs).1 k1
  rw [hnv] at x1 x2 x3
  have HI := Lib.hid h
  have HV := Lib.hid k1
  have HS := Lib.hid (inB_yes (x := s) (lo := 0) (hi := 20) (by omega) (by omega))
  have HX1 : Hid (∀ x : Nat, x < n → 0 ≤ vs[x]?.getD 0 ∧ vs[x]?.getD 0 ≤ 100000) := fun x hx => by have := toB_at x1 hx; omega
  have hlo : Hid (lowI (vs[q]?.getD 0) s (totI vs) = x) := by unfold Hid; rw [← hx]; unfold loF; rw [seV_nat]
  obtain ⟨y, hy⟩ : ∃ y, ovF vs s (q : Int) = y := ⟨_, rfl⟩
  have hov : Hid (overI (vs[q]?.getD 0) s (totI vs) = y) := by unfold Hid; rw [← hy]; unfold ovF; rw [seV_nat]
  rw [seV_nat, hx, hy] at hsi
  rw [hr, hx, hy] at hhi
  have HHI := Lib.hid hhi.symm
  have hqn : q < n := by omega
  obtain ⟨b, off, rfl, hb, hc⟩ := h.2.2.2 (by omega)
  have cq := hc q hqn
  obtain ⟨z, hz⟩ : ∃ z, vs[q]?.getD 0 = z := ⟨_, rfl⟩
  obtain ⟨t, ht⟩ : ∃ t, totI vs = t := ⟨_, rfl⟩
  have HT := Lib.hid ht
  rw [hz] at cq hsi hlo hov
  rw [ht] at hsi hlo hov
  obtain ⟨q1, q2, q3, q4, q5, q6⟩ := hsi
  have hd1 : decide ((q : Int) < 0) = false := decide_eq_false (by omega)
  have hd2 : decide ((n : Int) ≤ (q : Int)) = false := decide_eq_false (by omega)
  have hd3 : decide (n ≤ q) = false := decide_eq_false (by omega)
  have hqi : (q : Int) < (n : Int) := by omega
  clear h hk hr hx hy hz ht hc x1 k1 hhi hnv
  go_enter Try.func21, Try.ntmps21
  go_wp2_with fail
  refine (inRange_as s true _ HS.out).mono ?_
  rintro e w1 ⟨rfl, rfl⟩
  go_wp2_with fail
  refine (votes_as _ n cap vs true _ HI.out HV.out).mono ?_
  rintro e w1 ⟨rfl, rfl⟩
  go_upto_region 3 with fail
  go_cut [8] from 27 to 34 (fun s8 wx => MadeP w x y s8 wx)
  case first =>
    have q0 := World.new_ne w ⟨b, off + q, none⟩ cq
    go_region_held3 (fun w' => w'.cell? ⟨b, off + q, none⟩ = some (.int .i64 z)) (go_keep)
      (first
        | (go_at_call 49; refine (share_as z t s x y _ ⟨q1, q2⟩ q3 k2 hlo.out hov.out).mono ?_; rintro e w4 ⟨rfl, hb0⟩; (first | have hb9 := below_drew hb0 | have hb9 := hb0); (first | (have N4 := Lib.hid ((Two.new w 0 0 51).below hb9); have C4 := Lib.hid (below_on (below_more (Below.refl _ w) (.cells #[.int .i64 0, .int .i64 0] 51)) hb9); obtain ⟨ln4, n4, m4, g4, h4⟩ := N4.out; clear hb9 hb0) | (have C4 := Lib.hid (below_on (Below.refl _ w) hb9); clear hb9 hb0)); have s3 := (C4.out.cell (p := ⟨b, off + q, none⟩) hb).trans cq; have q6 := World.new_ne w4 ⟨b, off + q, none⟩ s3)
        | (go_at_call 38; refine (implSum_as _ n cap vs t _ ?_ (by omega) HX1.out HT.out).mono ?_; (first | exact HI.out | exact HI.out.below ((Below.refl _ w).alloc (Nat.le_refl _) _).drew | exact HI.out.below ((Below.refl _ w).alloc (Nat.le_refl _) _)); rintro e w3 ⟨rfl, rfl⟩))
    all_goals
      have hs4 := C4.out.size
      go_wp2_with fail
      go_meet
      first
        | exact madeP_new C4.out
        | exact madeP_old N4.out C4.out (by omega)
  case rest =>
    obtain ⟨pp, rfl, hP, hBx⟩ := hcut
    rename World => wx
    obtain ⟨lp, p0, p9, -, -⟩ := hP
    have BX := Lib.hid hBx
    have u0 : ∀ u : Beh wx, u.w.cell? ⟨pp, 0, none⟩ = _ := Beh.cell p0 lp
    have u1 : ∀ u : Beh wx, u.w.cell? ⟨pp, 1, none⟩ = _ := Beh.cell p9 lp
    have hx1980 : 0 ≤ x ∧ x ≤ 1980 := by omega
    clear hBx p0 p9 cq
    go_wp2_with fail
    refine wp_region_below (by kernel_rfl) (by kernel_rfl) ?_
    repeat (go_big_quiet_step (first | (go_at_call 48; exact Calls.beh (round_as x y r _ hx1980 HHI.out))))
    refine wpQuiet_nil ?_
    rintro w7 ⟨⟨w7, hb7⟩, rfl⟩
    have B7 := Lib.hid (below_on BX.out hb7)
    clear hb7 u0 u1
    go_wp2
    go_ret2
    exact ⟨rfl, B7.out⟩

set_option maxHeartbeats 2000000 in
/-- **impl.SeatsQuota**, at other arguments. -/
theorem implQuo_no (a : Option Addr) (n cap : Nat) (vs : List Int) (s p : Int) (w : World) (h : IsInts w a n cap vs) (hk : okQ vs s p = false) :
    Calls Try.prog 21 #[.slice a n cap, .int .i64 s, .int .i64 p] w fun e w' => e = .returned (.tuple #[.int .i64 (-1), .int .i64 (-1)]) ∧ Below w.heap.size w w' := by
  have HI := Lib.hid h
  have hnv := h.1
  obtain ⟨v1, hv1⟩ : ∃ v, inB s 0 20 = v := ⟨_, rfl⟩
  obtain ⟨v2, hv2⟩ : ∃ v, voteB vs = v := ⟨_, rfl⟩
  have V1 := Lib.hid hv1
  have V2 := Lib.hid hv2
  have HK : Hid ((v2 && (v1 && (decide (0 ≤ p) && decide (p < (n : Int))))) = false) := by
    unfold Hid; rw [← hk, ← hv1, ← hv2, ← hnv]; rfl
  have hm := h.2.2.1
  clear h hk hv1 hv2 hnv
  go_enter Try.func21, Try.ntmps21
  go_wp2_with fail
  refine (inRange_as s v1 _ V1.out).mono ?_
  rintro e w1 ⟨rfl, rfl⟩
  cases v1
  · go_wp2
    go_ret2
    exact ⟨rfl, Below.refl _ _⟩
  go_wp2_with fail
  refine (votes_as _ n cap vs v2 _ HI.out V2.out).mono ?_
  rintro e w1 ⟨rfl, rfl⟩
  cases v2
  · go_wp2
    go_ret2
    exact ⟨rfl, Below.refl _ _⟩
  by_cases h0 : p < 0
  · have hd1 : decide (p < 0) = true := decide_eq_true h0
    go_wp2
    go_ret2
    exact ⟨rfl, Below.refl _ _⟩
  have hpn : ¬ p < (n : Int) := by have := HK.out; simp at this; exact fun h => by have := this (by omega); omega
  have hd1 : decide (p < 0) = false := decide_eq_false h0
  have hd2 : decide ((n : Int) ≤ p) = true := decide_eq_true (by omega)
  clear hpn h0
  go_wp2
  go_ret2
  exact ⟨rfl, Below.refl _ _⟩

/-- **impl.SeatsQuota**. -/
theorem implQuo_as (a : Option Addr) (n cap : Nat) (vs : List Int) (s p x r : Int) (w : World) (h : IsInts w a n cap vs) (hx : loR vs s p = x) (hr : hiR vs s p = r) :
    Calls Try.prog 21 #[.slice a n cap, .int .i64 s, .int .i64 p] w fun e w' => e = .returned (.tuple #[.int .i64 x, .int .i64 r]) ∧ Below w.heap.size w w' := by
  cases hk : okQ vs s p
  · rw [loR, if_neg (by rw [hk]; decide)] at hx
    rw [hiR, if_neg (by rw [hk]; decide)] at hr
    subst hx
    subst hr
    exact implQuo_no a n cap vs s p w h hk
  · rw [loR, if_pos hk] at hx
    rw [hiR, if_pos hk] at hr
    obtain ⟨q, rfl⟩ := Int.eq_ofNat_of_zero_le ((okQ_iff vs s p).1 hk).2.2.1
    exact implQuo_yes a n cap vs s q x r w h hk hx hr

theorem fair_one {g lo hi : Int} (h : hi = lo ∨ hi = lo + 1) : inB g lo hi = (decide (g = lo) || decide (g = hi)) := by
  unfold inB
  by_cases h1 : g = lo
  · rw [decide_eq_true h1, Bool.true_or, decide_eq_true (by omega)]
  · by_cases h2 : g = hi
    · rw [decide_eq_true h2, Bool.or_true, decide_eq_true (by omega)]
    · rw [decide_eq_false h1, decide_eq_false h2, decide_eq_false (by omega)]; rfl

set_option maxRecDepth 100000 in
set_option maxHeartbeats 8000000 in
/-- **impl.SeatsFair**, at valid arguments. -/
theorem implFair_yes (a : Option Addr) (n cap : Nat) (vs : List Int) (a' : Option Addr) (cap' : Nat) (gs : List Int) (v : Bool) (w : World) (h : IsInts w a n cap vs) (h' : IsInts w a' n cap' gs) (hk : voteB vs = true) (hg : giveB gs n = true) (hv : faTo vs gs (totI gs) n = v) :
    Calls Try.prog 18 #[.slice a n cap, .slice a' n cap'] w fun e w' => e = .returned (.bool v) ∧ Below w.heap.size w w' := by
  obtain ⟨g1, g2, g3⟩ := (giveB_iff gs n).1 hg
  obtain ⟨⟨x1, x2, x3⟩, x4⟩ := (voteB_iff vs).1 hk
  have hnv := h.1
  rw [hnv] at x1 x2 x3
  rw [g2] at g1
  have hge := (le_totI (zs := gs) (fun i hi => (toB_at g1 (by omega)).1)).1
  have HI := Lib.hid h
  have HJ := Lib.hid h'
  have HV := Lib.hid hk
  have HG := Lib.hid hg
  have HNV := Lib.hid hnv
  have HX1 : Hid (∀ x : Nat, x < n → 0 ≤ gs[x]?.getD 0 ∧ gs[x]?.getD 0 ≤ 100000) := fun x hx => by have := toB_at g1 hx; omega
  obtain ⟨s, hs⟩ : ∃ s, totI gs = s := ⟨_, rfl⟩
  have HS := Lib.hid hs
  rw [hs] at hv hge g3
  have HF := Lib.hid hv
  have HSH : Hid (∀ i : Nat, i < n → fAt (shL vs s) i = (loF vs s (i : Int), ovF vs s (i : Int))) := fun i hi => shL_at s (by omega)
  have HIN : Hid (∀ i : Nat, i < n → (0 ≤ loF vs s (i : Int) ∧ loF vs s (i : Int) ≤ 20) ∧ hiF vs s (i : Int) = if ovF vs s (i : Int) = 0 then loF vs s (i : Int) else loF vs s (i : Int) + 1) := fun i hi =>
    ⟨(share_in HV.out ⟨hge, g3⟩ (z := (i : Int)) (by omega) (by omega)).2.2.2.2.1, hi_eq HV.out _⟩
  obtain ⟨gb, go, rfl, hgb, hgc⟩ := h'.2.2.2 (by omega)
  have HGC := Lib.hid hgc
  have hns : (shL vs s).length = n := by rw [shL_length]; exact hnv
  have HNS := Lib.hid hns
  clear h h' hk hg hv hs g1 g2 x1 x4 hnv hgc hns
  go_enter Try.func18, Try.ntmps18
  go_wp2_with fail
  refine (votes_as _ n cap vs true _ HI.out HV.out).mono ?_
  rintro e w1 ⟨rfl, rfl⟩
  go_wp2_with fail
  refine (given_as _ n cap' gs n true _ HJ.out ⟨by omega, by omega⟩ HG.out).mono ?_
  rintro e w1 ⟨rfl, rfl⟩
  go_wp2_with fail
  refine (implSum_as _ n cap' gs s _ HJ.out (by omega) HX1.out HS.out).mono ?_
  rintro e w1 ⟨rfl, rfl⟩
  go_wp2_with fail
  refine (shares_as _ n cap vs s _ _ HI.out HV.out ⟨hge, g3⟩ rfl).mono ?_
  rintro e w2 ⟨gg, rfl, ho, hb⟩
  have FR := Lib.hid (IsFr.of_owned ho (by omega))
  have B2 := Lib.hid hb
  clear ho hb
  go_wp2
  go_loopw [5, 6, 22] (fun _ _ iv wr => ∃ (i : Nat), i ≤ n ∧ iv = .int .i64 (i : Int) ∧ Hid (IsFr wr (some ⟨gg, 0, none⟩) n n (shL vs s)) ∧ Hid (Below w.heap.size w wr) ∧ Hid (faTo vs gs s i = true)) (fun _ _ iv _ => n - (intOf iv).toNat)
  case atStart => exact ⟨0, Nat.zero_le _, rfl, FR, B2, by simp [Hid, faTo]⟩
  case round =>
    clear FR B2
    obtain ⟨i, hin, rfl, hFR, hB, hA⟩ := hrel
    by_cases hlt : i < n
    · obtain ⟨b, off, e1, hb, s0, s1⟩ := hFR.out.at hlt
      injection e1 with e1
      injection e1 with e1 e2 _
      subst e1
      subst e2
      rw [HSH.out i hlt] at s0 s1
      simp only [Nat.zero_add] at s0 s1
      have cg := (hB.out.cell (p := ⟨gb, go + i, none⟩) hgb).trans (HGC.out i hlt)
      obtain ⟨hlo, hhi⟩ := HIN.out i hlt
      have HST := faTo_succ vs gs s i
      rw [hA.out, Bool.true_and] at HST
      obtain ⟨x, hx⟩ : ∃ x, loF vs s (i : Int) = x := ⟨_, rfl⟩
      obtain ⟨y, hy⟩ : ∃ y, ovF vs s (i : Int) = y := ⟨_, rfl⟩
      obtain ⟨u, hu⟩ : ∃ u, hiF vs s (i : Int) = u := ⟨_, rfl⟩
      obtain ⟨z, hz⟩ : ∃ z, gs[i]?.getD 0 = z := ⟨_, rfl⟩
      rw [hx] at s0 hlo hhi HST
      rw [hy] at s1 hhi
      rw [hu] at hhi HST
      rw [hz] at cg HST
      have hux : u = x ∨ u = x + 1 := by rw [hhi]; split <;> simp
      rw [fair_one hux] at HST
      have HST := Lib.hid HST
      have HHI := Lib.hid hhi.symm
      have hx1980 : 0 ≤ x ∧ x ≤ 1980 := by omega
      have hii : (i : Int) < (n : Int) := by omega
      have BA := Lib.hid ((Below.refl _ wr).alloc (Nat.le_refl _) (.cells #[.int .i64 x, .int .i64 y] 51))
      have TA := Lib.hid (Two.new wr x y 51)
      clear hx hy hu hz hhi hux
      go_wp2_with fail
      obtain ⟨wa, hwa⟩ : ∃ wa, wr.alloc (.cells #[.int .i64 x, .int .i64 y] 51) = wa := ⟨_, rfl⟩
      obtain ⟨N, hN⟩ : ∃ N, wr.heap.size = N := ⟨_, rfl⟩
      rw [hwa] at BA TA ⊢
      have cga := (BA.out.cell (p := ⟨gb, go + i, none⟩) (Nat.lt_of_lt_of_le hgb hB.out.size)).trans cg
      have lga : gb < wa.heap.size := Nat.lt_of_lt_of_le hgb (Nat.le_trans hB.out.size BA.out.size)
      have FA := Lib.hid (hFR.out.below BA.out)
      have B3 := Lib.hid (below_on hB.out BA.out)
      rw [hN] at TA ⊢
      obtain ⟨lp, p0, p9, -, -⟩ := TA.out
      have u0 : ∀ u : Beh wa, u.w.cell? ⟨N, 0, none⟩ = _ := Beh.cell p0 lp
      have u1 : ∀ u : Beh wa, u.w.cell? ⟨N, 1, none⟩ = _ := Beh.cell p9 lp
      have u2 : ∀ u : Beh wa, u.w.cell? ⟨gb, go + i, none⟩ = _ := Beh.cell cga lga
      clear hwa hN BA TA hFR hB p0 p9 cga cg s0 s1
      by_cases hzx : z = x
      · have ht : (z != x) = false := by simp [hzx]
        have HN : Hid (faTo vs gs s (i + 1) = true) := by rw [Hid, HST.out, decide_eq_true hzx]; rfl
        clear hzx
        refine wp_region_below (by kernel_rfl) (by kernel_rfl) ?_
        repeat (first | go_big_quiet_step (first | (go_at_call 48; exact Calls.beh (round_as x y u _ hx1980 HHI.out))) | go_big_quiet_skip)
        refine wpQuiet_nil ?_
        rintro w7 ⟨⟨w7, hb7⟩, rfl⟩
        have B7 := Lib.hid (below_on B3.out hb7)
        have F7 := Lib.hid (FA.out.below hb7)
        clear hb7 u0 u1 u2
        go_wp2
        go_roundw
        case rel => exact ⟨i + 1, by omega, by go_num, F7, B7, HN⟩
        case measure => simp [intOf]; omega
      · have ht : (z != x) = true := by simp [hzx]
        by_cases hzu : z = u
        · have ht2 : (z != u) = false := by simp [hzu]
          have HN : Hid (faTo vs gs s (i + 1) = true) := by rw [Hid, HST.out, decide_eq_true hzu, Bool.or_true]
          clear hzx hzu
          refine wp_region_below (by kernel_rfl) (by kernel_rfl) ?_
          repeat (first | go_big_quiet_step (first | (go_at_call 48; exact Calls.beh (round_as x y u _ hx1980 HHI.out))) | go_big_quiet_skip)
          refine wpQuiet_nil ?_
          rintro w7 ⟨⟨w7, hb7⟩, rfl⟩
          have B7 := Lib.hid (below_on B3.out hb7)
          have F7 := Lib.hid (FA.out.below hb7)
          clear hb7 u0 u1 u2
          go_wp2
          go_roundw
          case rel => exact ⟨i + 1, by omega, by go_num, F7, B7, HN⟩
          case measure => simp [intOf]; omega
        · have ht2 : (z != u) = true := by simp [hzu]
          have HN : Hid (v = false) := by
            have : faTo vs gs s (i + 1) = false := by rw [HST.out, decide_eq_false hzx, decide_eq_false hzu]; rfl
            rw [Hid, ← HF.out]; exact faTo_no this hlt
          clear hzx hzu
          refine wp_region_below (by kernel_rfl) (by kernel_rfl) ?_
          repeat (first | go_big_quiet_step (first | (go_at_call 48; exact Calls.beh (round_as x y u _ hx1980 HHI.out))) | go_big_quiet_skip)
          refine wpQuiet_nil ?_
          rintro w7 ⟨⟨w7, hb7⟩, rfl⟩
          have B7 := Lib.hid (below_on B3.out hb7)
          have F7 := Lib.hid (FA.out.below hb7)
          clear hb7 u0 u1 u2
          go_wp2
          go_ret
          exact ⟨ret_bool HN.out.symm, B7.out⟩
    · obtain rfl : i = n := by omega
      have HE : Hid (v = true) := by rw [Hid, ← HF.out]; exact hA.out
      go_wp2
      go_ret
      exact ⟨ret_bool HE.out.symm, hB.out⟩

theorem faTo_le {vs gs : List Int} {n : Nat} (h : vs.length = n) : fairB vs gs = (voteB vs && (giveB gs n && faTo vs gs (totI gs) n)) := by unfold fairB; rw [h]

set_option maxHeartbeats 2000000 in
/-- **impl.SeatsFair**. -/
theorem implFair_as (a : Option Addr) (n cap : Nat) (vs : List Int) (a' : Option Addr) (n' cap' : Nat) (gs : List Int) (v : Bool) (w : World) (h : IsInts w a n cap vs) (h' : IsInts w a' n' cap' gs) (hv : fairB vs gs = v) :
    Calls Try.prog 18 #[.slice a n cap, .slice a' n' cap'] w fun e w' => e = .returned (.bool v) ∧ Below w.heap.size w w' := by
  rw [faTo_le h.1] at hv
  have HI := Lib.hid h
  have HJ := Lib.hid h'
  cases h1 : voteB vs
  · have e : v = false := by rw [← hv, h1]; rfl
    subst e
    have V1 := Lib.hid h1
    clear h h' hv h1
    go_enter Try.func18, Try.ntmps18
    go_wp2_with fail
    refine (votes_as _ n cap vs false _ HI.out V1.out).mono ?_
    rintro e w1 ⟨rfl, rfl⟩
    go_wp2
    go_ret
    exact ⟨rfl, Below.refl _ _⟩
  · have hn := ((voteB_iff vs).1 h1).1
    rw [h.1] at hn
    cases h2 : giveB gs n
    · have e : v = false := by rw [← hv, h1, h2]; rfl
      subst e
      have V1 := Lib.hid h1
      have V2 := Lib.hid h2
      clear h h' hv h1 h2
      go_enter Try.func18, Try.ntmps18
      go_wp2_with fail
      refine (votes_as _ n cap vs true _ HI.out V1.out).mono ?_
      rintro e w1 ⟨rfl, rfl⟩
      go_wp2_with fail
      refine (given_as _ n' cap' gs n false _ HJ.out ⟨by omega, by omega⟩ V2.out).mono ?_
      rintro e w1 ⟨rfl, rfl⟩
      go_wp2
      go_ret
      exact ⟨rfl, Below.refl _ _⟩
    · have e : n' = n := by rw [← h'.1]; exact ((giveB_iff gs n).1 h2).2.1
      subst e
      exact implFair_yes a n' cap vs a' cap' gs v w h h' h1 h2 (by rw [← hv, h1, h2]; rfl)

end Go.Proofs.Ytmbhcgdapglbgaa
