/-
  laws.FnPlaceWinner returns true for every code. No condition.
-/
import Derived.Test.YtojfpnjnbpeniaaGrp1
import Derived.Test.YtojfpnjnbpeniaaGrp17
import Derived.Test.YtojfpnjnbpeniaaDrawCt
namespace Go.Proofs.Ytojfpnjnbpeniaa.fnPlaceWinner
open Go.RowKit
set_option linter.unusedVariables false


set_option maxRecDepth 100000 in
set_option maxHeartbeats 2000000 in
/-- The law's walk: it returns true, and writes nothing that was there. -/
theorem walk (a0 : Option Addr) (len0 cap0 : Nat) (z0 : List Int) (w : World) (w0 : IsRow .u8 w a0 len0 cap0 z0) :
    Calls Try.prog 8 #[.slice a0 len0 cap0] w fun e w' => e = .returned (.bool true) ∧ Below w.heap.size w w' := by
  by_cases hl : len0 ≤ 1048576
  · skip
    have hcap := w0.cap
    have HB := Lib.hid w0.bytes; clear w0
    go_enter Try.func8, Try.ntmps8
    go_wp2_with fail
    refine (drawPlaceW_any a0 len0 cap0 _ _ HB.out hcap (by omega)).mono ?_
    rintro e w1 ⟨xs, g, c, lots, al, cl, rfl, hp, hol, hl5, hb⟩
    have P := Lib.hid hp
    have B := Lib.hid hb
    have HSM := Lib.hid hp.2.1
    have hl13 := hp.2.2.2
    clear hb HB hp
    have J := Lib.hid (IsInts.of_owned hol (by omega))
    clear hol
    obtain ⟨r, hr⟩ : ∃ r, plaWin xs lots = r := ⟨_, rfl⟩
    have HR := Lib.hid hr
    clear hr
    have hrr : (r != r) = false := by simp
    have hre : (r == r) = true := by simp
    go_wp2_with fail
    refine (implPlaceW_as _ _ _ xs _ _ _ lots r _ P.out.piles HSM.out J.out HR.out).mono ?_
    rintro e w2 ⟨rfl, hb⟩
    have P := Lib.hid (P.out.below hb)
    have J := Lib.hid (J.out.below hb)
    have B := Lib.hid (B.out.trans (hb.mono B.out.size))
    clear hb
    go_wp2_with fail
    refine (specPlaceW_as _ _ _ xs _ _ _ lots r _ P.out.piles HSM.out J.out HR.out).mono ?_
    rintro e w3 ⟨rfl, hb⟩
    have P := Lib.hid (P.out.below hb)
    have J := Lib.hid (J.out.below hb)
    have B := Lib.hid (B.out.trans (hb.mono B.out.size))
    clear hb
    by_cases hneg : r < 0
    · have hd : decide (r < 0) = true := decide_eq_true hneg
      go_wp2
      go_ret
      exact ⟨rfl, B.out⟩
    · skip
      have hd : decide (r < 0) = false := decide_eq_false hneg
      have hcon := plaWin_some HR.out (by omega)
      obtain ⟨hlo, hfit⟩ := con_parts hcon
      have HFB := Lib.hid (fits_both hfit)
      obtain ⟨hpv, -, -, -⟩ := fits_parts hfit
      have hp1 := (pilesB_pos hpv).2.1
      have HP := Lib.hid hpv
      have hr1 : plaW xs lots = r := by have := HR.out; rwa [plaWin, if_pos hcon] at this
      have hrg := (vB_mem hlo).2.2 _ (pla_win hlo hp1 HFB.out.2).1
      rw [hr1] at hrg
      obtain ⟨q, rfl⟩ := Int.eq_ofNat_of_zero_le hrg.1
      have hn := lotsB_len hlo
      obtain ⟨N, hN⟩ : ∃ N, lots.length = N := ⟨_, rfl⟩
      obtain ⟨l, hl⟩ : ∃ l, plaL xs N = l := ⟨_, rfl⟩
      have hll : l.length = N := by rw [← hl]; exact plaL_length _ _
      obtain ⟨m, hm⟩ : ∃ m, topI l = m := ⟨_, rfl⟩
      have htop : m = l[q]?.getD 0 := by have := pla_top hlo hp1 HFB.out.2; rw [hr1, hN, hl, hm, Int.toNat_natCast] at this; exact this
      have HM := Lib.hid hm
      rw [hN] at hfit hrg hn
      have HF := Lib.hid hfit
      have HRL : Hid (plaR xs (N : Int) = l) := by rw [Hid, plaR, if_pos hfit, Int.toNat_natCast]; exact hl
      have HL := Lib.hid hl
      have HFB2 : Hid (∀ p ∈ xs, validB (nums p.1) 5 = true ∧ validB (nums p.1) (N : Int) = true) := (fits_both hfit).2
      have hrgl : (q : Int) < (N : Int) := hrg.2
      have hge : decide ((N : Int) ≤ (q : Int)) = false := decide_eq_false (by omega)
      have hge2 : decide (N ≤ q) = false := decide_eq_false (by omega)
      have hmm : (m != m) = false := by simp
      obtain ⟨p, hpw⟩ : ∃ p, winnerF xs (N : Int) = p := ⟨_, rfl⟩
      have HPW := Lib.hid hpw
      have hpc : p = -1 ∨ ∃ x, x < N ∧ Wins (pairF xs) N x ∧ p = (x : Int) := by
        have e : winnerF xs (N : Int) = pairW (pairF xs) N := by rw [winnerF, hfit]; rfl
        rcases pairW_cases (pairF xs) N with ⟨h1, _⟩ | ⟨x, hx, hw, h1⟩
        · left; rw [← hpw, e, h1]
        · right; exact ⟨x, hx, hw, by rw [← hpw, e, h1]⟩
      have HPC := Lib.hid hpc
      have HBD : Hid (∀ x : Nat, 0 ≤ l[x]?.getD 0) := fun x => by rw [← hl]; exact plaL_bound hfit x
      rw [hN]
      clear hcon hlo hfit hpv hp1 hr1 hl hm hpw hpc hrg HFB hneg hd
      clear J
      go_wp2_with fail
      refine (implPlace_as _ _ _ xs (N : Int) true l _ P.out.piles HSM.out HF.out HRL.out).mono ?_
      rintro e w4 ⟨a1, c1, rfl, ho, hb⟩
      have P := Lib.hid (P.out.below hb)
      have I1 := Lib.hid (IsInts.of_owned ho (by omega))
      have B := Lib.hid (B.out.trans (hb.mono B.out.size))
      clear hb ho
      try rw [hll] at I1
      try rw [hll]
      obtain ⟨b1, o1, rfl, hb1, hc1⟩ := I1.out.2.2.2 (by omega)
      have cq := hc1 q (by omega)
      rw [← htop] at cq
      clear hc1
      go_wp2_with fail
      go_quiet (first | (go_at_call 25; exact quiet_same (most_as _ _ _ l m _ (I1.out.drewN _) HM.out)))
      have hd : Dr w4 (w4.drewN nq) := (Dr.refl _).drewN _
      have P := Lib.hid (P.out.below (hd.below _))
      have I1 := Lib.hid (I1.out.dr hd)
      have B := Lib.hid (B.out.trans (hd.below _))
      clear hd cq
      generalize w4.drewN nq = w5 at P I1 B ⊢
      go_wp2_with fail
      refine (implPairWinner_as _ _ _ xs (N : Int) p _ P.out.piles HSM.out HPW.out).mono ?_
      rintro e w6 ⟨rfl, hb⟩
      have P := Lib.hid (P.out.below hb)
      have I1 := Lib.hid (I1.out.below hb)
      have B := Lib.hid (B.out.trans (hb.mono B.out.size))
      clear hb
      by_cases hN2 : 1 < N
      · have hgt : decide ((1 : Int) < (N : Int)) = true := decide_eq_true (by omega)
        have hgt2 : decide (1 < N) = true := decide_eq_true hN2
        by_cases hp0 : 0 ≤ p
        · have hpge : decide (0 ≤ p) = true := decide_eq_true hp0
          obtain ⟨x, hx, hwx, rfl⟩ : ∃ x, x < N ∧ Wins (pairF xs) N x ∧ p = (x : Int) := by
            rcases HPC.out with h | h
            · omega
            · exact h
          have HWX := Lib.hid hwx
          clear hwx HPC HPW
          have cx := (I1.out.2.2.2 (by omega))
          obtain ⟨b2, o2, e2, -, hc2⟩ := cx
          injection e2 with e2
          injection e2 with e21 e22
          subst e21
          subst e22
          have HC2 := Lib.hid hc2
          clear hc2
          go_wp2
          go_loop [10, 11] (fun fv iv => ∃ (i : Nat) (f : Bool), i ≤ xs.length ∧ iv = .int .i64 (i : Int) ∧ fv = .bool f ∧ Hid (allTo (fun j => decide ((tAt xs j).size = N)) i = f)) (fun _ iv => xs.length - (intOf iv).toNat)
          case atStart => exact ⟨0, true, Nat.zero_le _, rfl, rfl, rfl⟩
          case round =>
            obtain ⟨i, f, hi, rfl, rfl, hA⟩ := hrel
            by_cases hlt : i < xs.length
            · skip
              cases f
              · go_wp2
                go_round
                case rel => exact ⟨i + 1, false, by omega, by go_num, rfl, by unfold Hid; rw [allTo_succ, hA.out]; rfl⟩
                case measure => simp [intOf]; omega
              · obtain ⟨b, off, eb, hb, k0, -⟩ := P.out.piles.at_text hlt
                injection eb with eb
                injection eb with eb1 eb2
                subst eb1
                subst eb2
                rw [Nat.zero_add] at k0
                obtain ⟨t, ht⟩ : ∃ t, tAt xs i = t := ⟨_, rfl⟩
                rw [ht] at k0
                obtain ⟨f2, hf2⟩ : ∃ f2, ((t.size : Int) == (N : Int)) = f2 := ⟨_, rfl⟩
                have HN : Hid (allTo (fun j => decide ((tAt xs j).size = N)) (i + 1) = f2) := by
                  rw [Hid, allTo_succ, hA.out, ← hf2, ht, Bool.true_and]
                  by_cases e : t.size = N
                  · rw [decide_eq_true e, e]; simp
                  · rw [decide_eq_false e]; exact (beq_eq_false_iff_ne.2 (by omega)).symm
                have hii : (i : Int) < (xs.length : Int) := by omega
                clear ht
                go_wp2
                go_round
                case rel => exact ⟨i + 1, f2, by omega, by go_num, by first | rfl | rw [hf2], HN⟩
                case measure => simp [intOf]; omega
            · obtain rfl : i = xs.length := by omega
              cases f
              · go_wp2
                go_loop [12, 13] (fun sv iv => sv = .bool true ∧ iv = .int .i64 0) (fun _ _ => 0)
                case atStart => exact ⟨rfl, rfl⟩
                case round =>
                  obtain ⟨rfl, rfl⟩ := hrel
                  have hNi : (0 : Int) < (N : Int) := by omega
                  have hNi2 : decide ((0 : Int) < (N : Int)) = true := decide_eq_true hNi
                  have hNi3 : decide (0 < N) = true := decide_eq_true (by omega)
                  go_wp2
                  go_ret
                  exact ⟨rfl, B.out⟩
              · have HEX : Hid (∃ i, i < N ∧ l[i]?.getD 0 < l[x]?.getD 0) := by
                  rw [Hid, ← HL.out]
                  refine pla_not_last (by omega) hx HWX.out HFB2.out (fun p hp => ?_)
                  obtain ⟨j, hj, rfl⟩ := List.mem_iff_getElem.1 hp
                  have := (allTo_iff _ _).1 hA.out j hj
                  simpa [tAt, hj] using this
                go_wp2
                go_loopw [12, 13] (fun sv iv wr => ∃ (i : Nat) (s : Bool), i ≤ N ∧ iv = .int .i64 (i : Int) ∧ sv = .bool s ∧ Hid (allTo (fun j => decide (l[x]?.getD 0 ≤ l[j]?.getD 0)) i = !s) ∧ Dr w6 wr) (fun _ iv _ => N - (intOf iv).toNat)
                case atStart => exact ⟨0, false, Nat.zero_le _, rfl, rfl, rfl, Dr.refl _⟩
                case round =>
                  obtain ⟨i, s, hi, rfl, rfl, hS, hd⟩ := hrel
                  have hds : ∀ (o : Nat) (v : Value), w6.cell? ⟨b1, o, none⟩ = some v → wr.cell? ⟨b1, o, none⟩ = some v := fun o v h => (hd.below w6.heap.size).cell (p := ⟨b1, o, none⟩) (World.block_lt_of_cell? _ _ h) |>.trans h
                  by_cases hlt : i < N
                  · have hii : (i : Int) < (N : Int) := by omega
                    cases s
                    · skip
                      have ci := hds _ _ (HC2.out i hlt)
                      have cx := hds _ _ (HC2.out x hx)
                      obtain ⟨z, hz⟩ : ∃ z, l[i]?.getD 0 = z := ⟨_, rfl⟩
                      obtain ⟨u, hu⟩ : ∃ u, l[x]?.getD 0 = u := ⟨_, rfl⟩
                      rw [hz] at ci
                      rw [hu] at cx
                      obtain ⟨s2, hs2⟩ : ∃ s2, decide (z < u) = s2 := ⟨_, rfl⟩
                      have HN : Hid (allTo (fun j => decide (l[x]?.getD 0 ≤ l[j]?.getD 0)) (i + 1) = !s2) := by
                        rw [Hid, allTo_succ, hS.out, hz, hu, ← hs2]
                        by_cases e : z < u
                        · rw [decide_eq_true e, decide_eq_false (by omega : ¬ u ≤ z)]; rfl
                        · rw [decide_eq_false e, decide_eq_true (by omega : u ≤ z)]; rfl
                      have hxi : (x : Int) < (N : Int) := by omega
                      clear hz hu hds
                      go_wp2_with fail
                      go_quiet (fail)
                      go_wp2
                      go_roundw
                      case rel => exact ⟨i + 1, s2, by omega, by go_num, by first | rfl | rw [hs2], HN, hd.drewN _⟩
                      case measure => simp [intOf]; omega
                    · clear hds
                      go_wp2_with fail
                      go_quiet (fail)
                      go_wp2
                      go_roundw
                      case rel => exact ⟨i + 1, true, by omega, by go_num, rfl, by unfold Hid; rw [allTo_succ, hS.out]; rfl, hd.drewN _⟩
                      case measure => simp [intOf]; omega
                  · obtain rfl : i = N := by omega
                    have hs : s = true := by
                      cases s
                      · exfalso
                        obtain ⟨j, hj, hlt2⟩ := HEX.out
                        have := (allTo_iff _ _).1 hS.out j hj
                        simp at this
                        omega
                      · rfl
                    subst hs
                    clear hds
                    go_wp2
                    go_ret
                    exact ⟨rfl, B.out.trans (hd.below _)⟩
        · have hpge : decide (0 ≤ p) = false := decide_eq_false hp0
          go_wp2
          go_loop [10, 11] (fun fv iv => ∃ i : Nat, i ≤ xs.length ∧ iv = .int .i64 (i : Int) ∧ fv = .bool false) (fun _ iv => xs.length - (intOf iv).toNat)
          case atStart => exact ⟨0, Nat.zero_le _, rfl, rfl⟩
          case round =>
            obtain ⟨i, hi, rfl, rfl⟩ := hrel
            by_cases hlt : i < xs.length
            · go_wp2
              go_round
              case rel => exact ⟨i + 1, by omega, by go_num, rfl⟩
              case measure => simp [intOf]; omega
            · obtain rfl : i = xs.length := by omega
              go_wp2
              go_loop [12, 13] (fun sv iv => sv = .bool true ∧ iv = .int .i64 0) (fun _ _ => 0)
              case atStart => exact ⟨rfl, rfl⟩
              case round =>
                obtain ⟨rfl, rfl⟩ := hrel
                have hNi : (0 : Int) < (N : Int) := by omega
                have hNi2 : decide ((0 : Int) < (N : Int)) = true := decide_eq_true hNi
                have hNi3 : decide (0 < N) = true := decide_eq_true (by omega)
                go_wp2
                go_ret
                exact ⟨rfl, B.out⟩
      · have hgt : decide ((1 : Int) < (N : Int)) = false := decide_eq_false (by omega)
        have hgt2 : decide (1 < N) = false := decide_eq_false hN2
        go_wp2
        go_loop [10, 11] (fun fv iv => ∃ i : Nat, i ≤ xs.length ∧ iv = .int .i64 (i : Int) ∧ fv = .bool false) (fun _ iv => xs.length - (intOf iv).toNat)
        case atStart => exact ⟨0, Nat.zero_le _, rfl, rfl⟩
        case round =>
          obtain ⟨i, hi, rfl, rfl⟩ := hrel
          by_cases hlt : i < xs.length
          · go_wp2
            go_round
            case rel => exact ⟨i + 1, by omega, by go_num, rfl⟩
            case measure => simp [intOf]; omega
          · obtain rfl : i = xs.length := by omega
            go_wp2
            go_loop [12, 13] (fun sv iv => sv = .bool true ∧ iv = .int .i64 0) (fun _ _ => 0)
            case atStart => exact ⟨rfl, rfl⟩
            case round =>
              obtain ⟨rfl, rfl⟩ := hrel
              have hNi : (0 : Int) < (N : Int) := by omega
              have hNi2 : decide ((0 : Int) < (N : Int)) = true := decide_eq_true hNi
              have hNi3 : decide (0 < N) = true := decide_eq_true (by omega)
              go_wp2
              go_ret
              exact ⟨rfl, B.out⟩
  · clear w0
    go_enter Try.func8, Try.ntmps8
    go_wp2
    go_ret
    exact ⟨rfl, Below.refl _ _⟩

end Go.Proofs.Ytojfpnjnbpeniaa.fnPlaceWinner
