/-
  laws.FnPairWinnerNone returns true for every code. No condition.
-/
import Derived.Test.YtaaamidkfhabnaaGrp4
import Derived.Test.YtaaamidkfhabnaaGrp13
import Derived.Test.YtaaamidkfhabnaaPthS
import Derived.Test.YtaaamidkfhabnaaGrp14
import Derived.Test.YtaaamidkfhabnaaGrp15
import Derived.Test.YtaaamidkfhabnaaGrp3
import Derived.Test.YtaaamidkfhabnaaGrp12
namespace Go.Proofs.Ytaaamidkfhabnaa.fnPairWinnerNone
open Go.RowKit
set_option linter.unusedVariables false


set_option maxRecDepth 100000 in
set_option maxHeartbeats 2000000 in
/-- The law's walk: it returns true, and writes nothing that was there. -/
theorem walk (a0 : Option Addr) (len0 cap0 : Nat) (z0 : List Int) (w : World) (w0 : IsRow .u8 w a0 len0 cap0 z0) :
    Calls Try.prog 6 #[.slice a0 len0 cap0] w fun e w' => e = .returned (.bool true) ∧ Below w.heap.size w w' := by
  by_cases hl : len0 ≤ 1048576
  · skip
    have hcap := w0.cap
    have HB := Lib.hid w0.bytes; clear w0
    go_enter Try.func6, Try.ntmps6
    go_wp2_with fail
    refine (drawXWinner_any a0 len0 cap0 _ _ HB.out hcap (by omega)).mono ?_
    rintro e w1 ⟨xs, g, c, n, rfl, hp, hn6, hb⟩
    have P := Lib.hid hp
    have B := Lib.hid hb
    have HSM := Lib.hid hp.2.1
    have hl13 := hp.2.2.2
    clear hb HB hp
    obtain ⟨v, hv⟩ : ∃ v, fitsB xs (n : Int) = v := ⟨_, rfl⟩
    have HV := Lib.hid hv
    obtain ⟨r, hr⟩ : ∃ r, winnerF xs (n : Int) = r := ⟨_, rfl⟩
    have HR := Lib.hid hr
    clear hr hv
    go_wp2_with fail
    refine (implPairWinner_as _ _ _ xs (n : Int) r _ P.out.piles HSM.out HR.out).mono ?_
    rintro e w2 ⟨rfl, hb⟩
    have P := Lib.hid (P.out.below hb)
    have B := Lib.hid (B.out.trans (hb.mono B.out.size))
    clear hb
    go_wp2_with fail
    refine (specPairWinner_as _ _ _ xs (n : Int) r _ P.out.piles HSM.out HR.out).mono ?_
    rintro e w3 ⟨rfl, hb⟩
    have P := Lib.hid (P.out.below hb)
    have B := Lib.hid (B.out.trans (hb.mono B.out.size))
    clear hb
    have hrr : (r != r) = false := by simp
    have hre : (r == r) = true := by simp
    cases v
    · skip
      go_wp2_with fail
      refine (implPairCounts_as _ _ _ xs (n : Int) false _ P.out.piles HSM.out HV.out).mono ?_
      rintro e w4 (⟨-, rfl, hb⟩ | ⟨h, _⟩)
      · skip
        have B := Lib.hid (B.out.trans (hb.mono B.out.size))
        clear hb
        go_wp2
        go_ret
        exact ⟨rfl, B.out⟩
      · cases h
    · skip
      obtain ⟨hpv, hn1i, hn5i, -⟩ := fits_parts HV.out
      have hn1 : 1 ≤ n := by omega
      have hn5 : n ≤ 5 := by omega
      have HP := Lib.hid hpv
      clear hpv hn1i hn5i
      have hne : ((n : Int) != (n : Int)) = false := by simp
      go_wp2_with fail
      refine (implPairCounts_as _ _ _ xs (n : Int) true _ P.out.piles HSM.out HV.out).mono ?_
      rintro e w4 (⟨h, _⟩ | ⟨-, gt, G, rfl, hT, -, hb⟩)
      · cases h
      rw [Int.toNat_natCast] at hT ⊢
      have P := Lib.hid (P.out.below hb)
      have T := Lib.hid hT
      have B := Lib.hid (B.out.trans (hb.mono B.out.size))
      clear hb hT
      by_cases hneg : r < 0
      · skip
        have hge : decide (0 ≤ r) = false := decide_eq_false (by omega)
        have HNO : Hid (∀ x, x < n → winsB (pairF xs) n x = false) := by
          intro x hx
          have e : winnerF xs (n : Int) = pairW (pairF xs) n := by rw [winnerF, HV.out]; rfl
          cases hw : winsB (pairF xs) n x
          · rfl
          · exfalso; have := pairW_yes hx hw; rw [← e, HR.out] at this; omega
        go_wp2
        go_loopw [9, 10, 11] (fun xv _ _ wr => ∃ x : Nat, x ≤ n ∧ xv = .int .i64 (x : Int) ∧ Dr w4 wr) (fun xv _ _ _ => n - (intOf xv).toNat)
        case atStart => exact ⟨0, Nat.zero_le _, rfl, Dr.refl _⟩
        case round =>
          obtain ⟨x, hx, rfl, hbx⟩ := hrel
          by_cases hlt : x < n
          · go_wp2
            go_loopw [10, 11] (fun sv yv wr => ∃ (y : Nat) (u : Bool), y ≤ n ∧ yv = .int .i64 (y : Int) ∧ sv = .bool u ∧ Hid (allTo (fun y => decide (x = y) || decide (pairF xs y x < pairF xs x y)) y = !u) ∧ Dr w4 wr) (fun _ yv _ => n - (intOf yv).toNat)
            case atStart => exact ⟨0, false, Nat.zero_le _, rfl, rfl, rfl, hbx⟩
            case round =>
              obtain ⟨y, u, hy, rfl, rfl, hA, hby⟩ := hrel
              by_cases hlt2 : y < n
              · cases u
                · by_cases hxy : y = x
                  · subst hxy
                    have he : ((y : Int) != (y : Int)) = false := by simp
                    go_wp2_with fail
                    go_quiet (fail)
                    go_wp2
                    go_roundw
                    case rel => exact ⟨y + 1, false, by omega, by go_num, rfl, by unfold Hid; rw [allTo_succ, hA.out]; simp, hby.drewN _⟩
                    case measure => simp [intOf]; omega
                  · have he : ((y : Int) != (x : Int)) = true := bne_iff_ne.2 (by omega)
                    have U := Lib.hid (T.out.under (hby.below _))
                    have rU0 := U.out.row_cell hlt2 (Nat.le_refl _)
                    have rU1 := U.out.row_cell hlt (Nat.le_refl _)
                    have kUp := U.out.cell hlt2 hlt
                    have kUq := U.out.cell hlt hlt2
                    obtain ⟨gU0, hgU0⟩ : ∃ gU0, G y = gU0 := ⟨_, rfl⟩
                    rw [hgU0] at rU0 kUp
                    clear hgU0
                    obtain ⟨gU1, hgU1⟩ : ∃ gU1, G x = gU1 := ⟨_, rfl⟩
                    rw [hgU1] at rU1 kUq
                    clear hgU1
                    obtain ⟨p, hp⟩ : ∃ p, pairF xs y x = p := ⟨_, rfl⟩
                    simp only [hp] at kUp
                    obtain ⟨q, hq⟩ : ∃ q, pairF xs x y = q := ⟨_, rfl⟩
                    simp only [hq] at kUq
                    obtain ⟨v2, hv2⟩ : ∃ v2, decide (q ≤ p) = v2 := ⟨_, rfl⟩
                    have HNX : Hid (allTo (fun y => decide (x = y) || decide (pairF xs y x < pairF xs x y)) (y + 1) = !v2) := by
                      unfold Hid; rw [allTo_succ, hA.out, hp, hq, ← hv2, decide_eq_false (fun g : x = y => hxy g.symm)]
                      by_cases h : q ≤ p
                      · rw [decide_eq_true h, decide_eq_false (by omega : ¬ p < q)]; rfl
                      · rw [decide_eq_false h, decide_eq_true (by omega : p < q)]; rfl
                    have hxi : (x : Int) < (n : Int) := by omega
                    have hyi : (y : Int) < (n : Int) := by omega
                    clear hp hq
                    go_wp2_with fail
                    go_quiet (fail)
                    go_wp2
                    go_roundw
                    case rel => exact ⟨y + 1, v2, by omega, by go_num, rfl, HNX, hby.drewN _⟩
                    case measure => simp [intOf]; omega
                · go_wp2_with fail
                  go_quiet (fail)
                  go_wp2
                  go_roundw
                  case rel => exact ⟨y + 1, true, by omega, by go_num, rfl, by unfold Hid; rw [allTo_succ, hA.out]; rfl, hby.drewN _⟩
                  case measure => simp [intOf]; omega
              · obtain rfl : y = n := by omega
                have hu : u = true := by
                  have h1 := HNO.out x hlt
                  have h2 : winsB (pairF xs) y x = !u := hA.out
                  rw [h1] at h2
                  cases u
                  · cases h2
                  · rfl
                subst hu
                clear hA
                go_wp2
                go_roundw
                case rel => exact ⟨x + 1, by omega, by go_num, hby⟩
                case measure => simp [intOf]; omega
          · obtain rfl : x = n := by omega
            go_wp2
            go_ret
            exact ⟨rfl, B.out.trans (hbx.below _)⟩
      · have hge : decide (0 ≤ r) = true := decide_eq_true (by omega)
        go_wp2
        go_ret
        exact ⟨rfl, B.out⟩
  · clear w0
    go_enter Try.func6, Try.ntmps6
    go_wp2
    go_ret
    exact ⟨rfl, Below.refl _ _⟩

end Go.Proofs.Ytaaamidkfhabnaa.fnPairWinnerNone
