/-
  impl.SeatsCheck: a contract at all arguments. It writes into no memory that was there.
-/
import Derived.Test.YtgcocdacofpglaaSeatO
namespace Go.Proofs.Ytgcocdacofpglaa
open Go.RowKit

attribute [local go_sem] Oper.semAt_some

theorem chRow_none {vs gs : List Int} {m : Int} {i n : Nat} {gi : Int} (hg : gs[i]?.getD 0 = gi) (h : ¬ 0 < gi) : chRow vs gs m i n = true := by
  unfold chRow
  rw [List.all_eq_true]
  intro k _
  exact chAt_no hg h
theorem chRow_any {vs gs : List Int} {m : Int} {i n : Nat} {gi : Int} (hm : methB m = true) (hn : vs.length = n) (hgl : gs.length = n) (hv : toB gs 20 n = true) (hi : gs[i]?.getD 0 = gi) (h : 0 < gi) (hg : gi ≤ 20) :
    chRow vs gs m i n = !anyTo (qsL vs gs m) (ofF (vs[i]?.getD 0) (divI m (gi - 1))) n := by
  unfold chRow anyTo
  rw [List.not_any_eq_all_not]
  have e : ∀ k, k ∈ List.range n → chAt vs gs m i k = !lessF (ofF (vs[i]?.getD 0) (divI m (gi - 1))) (fAt (qsL vs gs m) k) := fun k hk => by
    have hkn := List.mem_range.1 hk
    have hq := qs_at (vs := vs) (gs := gs) (m := m) (z := (k : Int)) (by omega)
    rw [Int.toNat_natCast, seV_nat, seV_nat] at hq
    have d1 := divI_in hm (show 0 ≤ gi - 1 ∧ gi - 1 ≤ 20 by omega)
    have d2 := divI_in hm (toB_at hv hkn)
    rw [hq, less_of (by omega) (by omega)]
    exact chAt_is hi rfl rfl rfl rfl rfl h rfl
  rw [Bool.eq_iff_iff, List.all_eq_true, List.all_eq_true]
  exact ⟨fun hh k hk => by rw [← e k hk]; exact hh k hk, fun hh k hk => by rw [e k hk]; exact hh k hk⟩

set_option maxRecDepth 100000 in
set_option maxHeartbeats 8000000 in
/-- **impl.SeatsCheck**. -/
theorem implCheck_as (a : Option Addr) (n cap : Nat) (vs : List Int) (a' : Option Addr) (n' cap' : Nat) (gs : List Int) (m : Int) (v : Bool) (w : World) (h : IsInts w a n cap vs) (h' : IsInts w a' n' cap' gs) (hr : checkB vs gs m = v) :
    Calls Try.prog 14 #[.slice a n cap, .slice a' n' cap', .int .i64 m] w fun e w' => e = .returned (.bool v) ∧ Below w.heap.size w w' := by
  obtain ⟨v1, hv1⟩ : ∃ v, okC vs gs m = v := ⟨_, rfl⟩
  have H1 := Lib.hid h
  have H2 := Lib.hid h'
  have V1 := Lib.hid hv1
  have HR := Lib.hid hr
  have HNV : Hid (vs.length = n) := h.1
  clear h h' hv1 hr
  go_enter Try.func14, Try.ntmps14
  go_wp2_with fail
  refine (newSeat_as _ n cap vs _ n' cap' gs m v1 _ H1.out H2.out V1.out).mono ?_
  rintro e w1 ⟨p, rfl, hb, hT⟩
  have B1 := Lib.hid hb
  have G1 := Lib.hid (H2.out.below hb)
  have HT := Lib.hid hT
  clear hb hT
  cases v1
  · have HX : Hid (v = false) := by rw [Hid, ← HR.out, checkB_no V1.out]
    go_wp2
    go_ret
    exact ⟨ret_bool HX.out.symm, B1.out⟩
  obtain ⟨hnn, T, hp, -, hS⟩ := HT.out rfl
  subst hp
  subst hnn
  have S1 := Lib.hid hS
  have HX : Hid (chTo vs gs m n' n' = v) := by rw [Hid, ← HR.out, checkB_yes V1.out, HNV.out]
  obtain ⟨c1, c2, c3⟩ := (okC_iff vs gs m).1 V1.out
  obtain ⟨⟨x1, x2, x3⟩, -⟩ := (voteB_iff vs).1 c1
  obtain ⟨g1, g2, -⟩ := (giveB_iff gs _).1 c2
  rw [HNV.out] at x1 x2 x3 g2
  have HNG := Lib.hid g2
  rw [g2] at g1
  have X1 := Lib.hid x1
  have GG := Lib.hid g1
  have M1 := Lib.hid c3
  clear x1 g1 c3 hS c1 c2 g2 HT
  go_wp2_with fail
  refine (quots_as T _ n' cap vs _ cap' gs m _ S1.out ⟨x2, x3⟩ M1.out X1.out GG.out).mono ?_
  rintro e w2 ⟨q, rfl, hf, hb⟩
  have F2 := Lib.hid hf
  have S2 := Lib.hid (S1.out.below hb)
  have B2 := Lib.hid (below_on B1.out hb)
  have HFR : Hid (∀ j, j < n' → fracB (fAt (qsL vs gs m) j) = true) := fun j hj => qs_fr M1.out (by rw [HNV.out]; exact X1.out) (by rw [HNG.out]; exact GG.out) (by rw [HNV.out, HNG.out]) (by rw [HNV.out]; exact hj)
  have HROW : Hid (∀ i gi, gs[i]?.getD 0 = gi → 0 < gi → gi ≤ 20 → chRow vs gs m i n' = !anyTo (qsL vs gs m) (ofF (vs[i]?.getD 0) (divI m (gi - 1))) n') := fun i gi h1 h2 h3 => chRow_any M1.out HNV.out HNG.out GG.out h1 h2 h3
  obtain ⟨cs, hcs⟩ : ∃ cs, qsL vs gs m = cs := ⟨_, rfl⟩
  rw [hcs] at F2 HFR HROW
  obtain ⟨gb, go, rfl, hgb, hgc⟩ := S2.out.given.2.2.2 (by omega)
  have HGC := Lib.hid hgc
  clear hf hb hcs hgc S1 B1 G1
  go_wp2
  go_loopw [10, 11, 25] (fun _ _ iv wr => ∃ i : Nat, i ≤ n' ∧ iv = .int .i64 (i : Int) ∧ Hid (chTo vs gs m n' i = true) ∧ Below w2.heap.size w2 wr) (fun _ _ iv _ => n' - (intOf iv).toNat)
  case atStart => exact ⟨0, Nat.zero_le _, rfl, rfl, Below.refl _ _⟩
  case round =>
    obtain ⟨i, hi, rfl, hc, hB⟩ := hrel
    by_cases hlt : i < n'
    · have ci := (hB.cell (p := ⟨gb, go + i, none⟩) hgb).trans (HGC.out i hlt)
      obtain ⟨g, hg⟩ : ∃ g, gs[i]?.getD 0 = g := ⟨_, rfl⟩
      rw [hg] at ci
      have bg := toB_at GG.out hlt
      rw [hg] at bg
      have bv := Lib.hid (toB_at X1.out hlt)
      have HGE := Lib.hid hg
      have hii : (i : Int) < (n' : Int) := by omega
      have HST := Lib.hid (chTo_succ vs gs m n' i)
      rw [hc.out, Bool.true_and] at HST
      clear hg
      by_cases hpos : 0 < g
      · have hdp : decide (0 < g) = true := decide_eq_true hpos
        obtain ⟨x, y, hxy⟩ : ∃ x y, ofF (vs[i]?.getD 0) (divI m (g - 1)) = (x, y) := ⟨_, _, rfl⟩
        have HQ := Lib.hid hxy
        have hrow := HROW.out i g HGE.out hpos bg.2
        rw [hxy] at hrow
        obtain ⟨b, hb⟩ : ∃ b, anyTo cs (x, y) n' = b := ⟨_, rfl⟩
        rw [hb] at hrow
        have HB := Lib.hid hb
        have HRW := Lib.hid hrow
        have hfo := (quot_fr bv.out (divI_in M1.out (show 0 ≤ g - 1 ∧ g - 1 ≤ 20 by omega))).2
        rw [hxy] at hfo
        have HFO := Lib.hid hfo
        have hg1 : 0 ≤ g - 1 ∧ g - 1 ≤ 20 := by omega
        have hw3 : IntKind.i64.wrap (g - 1) = g - 1 := IntWalk.i64_in _ (by omega)
        clear hxy hrow hb hfo
        go_wp2_with fail
        refine (quot_as T _ n' cap vs _ cap' gs m i (g - 1) x y _ (S2.out.below hB) hlt M1.out bv.out hg1 HQ.out).mono ?_
        rintro e w3 ⟨rfl, hb3⟩
        have B3 := Lib.hid (hB.trans (hb3.mono hB.size))
        have F3 := Lib.hid (F2.out.below B3.out)
        clear hb3
        go_wp2_with fail
        refine (containsF_as _ n' n' cs x y b _ F3.out HFR.out HFO.out HB.out).mono ?_
        rintro e w4 ⟨rfl, hb4⟩
        have B4 := Lib.hid (B3.out.trans (hb4.mono B3.out.size))
        clear hb4 B3
        cases b
        · have HS2 : Hid (chTo vs gs m n' (i + 1) = true) := by rw [Hid, HST.out, HRW.out]; rfl
          go_wp2
          go_roundw
          case rel => exact ⟨i + 1, by omega, by go_num, HS2, B4.out⟩
          case measure => simp [intOf]; omega
        · have HF : Hid (v = false) := by rw [Hid, ← HX.out]; exact chTo_row hlt HRW.out
          go_wp2
          go_ret
          exact ⟨ret_bool HF.out.symm, below_on B2.out B4.out⟩
      · have hdp : decide (0 < g) = false := decide_eq_false hpos
        have HS2 : Hid (chTo vs gs m n' (i + 1) = true) := by rw [Hid, HST.out]; exact chRow_none HGE.out hpos
        clear hpos
        go_wp2
        go_roundw
        case rel => exact ⟨i + 1, by omega, by go_num, HS2, hB⟩
        case measure => simp [intOf]; omega
    · obtain rfl : i = n' := by omega
      have HF : Hid (v = true) := by rw [Hid, ← HX.out, hc.out]
      go_wp2
      go_ret
      exact ⟨ret_bool HF.out.symm, below_on B2.out hB⟩

end Go.Proofs.Ytgcocdacofpglaa
