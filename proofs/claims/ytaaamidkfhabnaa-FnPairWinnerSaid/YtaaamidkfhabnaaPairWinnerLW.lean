/-
  laws.FnPairWinner returns true for every code. No condition.
-/
import Derived.Test.YtaaamidkfhabnaaGrp4
import Derived.Test.YtaaamidkfhabnaaGrp13
import Derived.Test.YtaaamidkfhabnaaPthS
import Derived.Test.YtaaamidkfhabnaaGrp14
import Derived.Test.YtaaamidkfhabnaaGrp15
import Derived.Test.YtaaamidkfhabnaaGrp3
import Derived.Test.YtaaamidkfhabnaaGrp12
namespace Go.Proofs.Ytaaamidkfhabnaa.fnPairWinner
open Go.RowKit
set_option linter.unusedVariables false


set_option maxRecDepth 100000 in
set_option maxHeartbeats 2000000 in
/-- The law's walk: it returns true, and writes nothing that was there. -/
theorem walk (a0 : Option Addr) (len0 cap0 : Nat) (z0 : List Int) (w : World) (w0 : IsRow .u8 w a0 len0 cap0 z0) :
    Calls Try.prog 5 #[.slice a0 len0 cap0] w fun e w' => e = .returned (.bool true) ∧ Below w.heap.size w w' := by
  by_cases hl : len0 ≤ 1048576
  · skip
    have hcap := w0.cap
    have HB := Lib.hid w0.bytes; clear w0
    go_enter Try.func5, Try.ntmps5
    go_wp2_with fail
    refine (drawXWinner_any a0 len0 cap0 _ _ HB.out hcap (by omega)).mono ?_
    rintro e w1 ⟨xs, g, c, n, rfl, hp, hn6, hb⟩
    have P := Lib.hid hp
    have B := Lib.hid hb
    have HSM := Lib.hid hp.2.1
    have hl13 := hp.2.2.2
    clear hb HB hp
    obtain ⟨v, hv⟩ : ∃ v, fitsB xs (n : Int) = v := ⟨_, rfl⟩
    have HV := Lib.hid hv
    obtain ⟨r, hr⟩ : ∃ r, winnerF xs (n : Int) = r := ⟨_, rfl⟩
    have HR := Lib.hid hr
    clear hr hv
    go_wp2_with fail
    refine (implPairWinner_as _ _ _ xs (n : Int) r _ P.out.piles HSM.out HR.out).mono ?_
    rintro e w2 ⟨rfl, hb⟩
    have P := Lib.hid (P.out.below hb)
    have B := Lib.hid (B.out.trans (hb.mono B.out.size))
    clear hb
    go_wp2_with fail
    refine (specPairWinner_as _ _ _ xs (n : Int) r _ P.out.piles HSM.out HR.out).mono ?_
    rintro e w3 ⟨rfl, hb⟩
    have P := Lib.hid (P.out.below hb)
    have B := Lib.hid (B.out.trans (hb.mono B.out.size))
    clear hb
    have hrr : (r != r) = false := by simp
    have hre : (r == r) = true := by simp
    by_cases hneg : r < 0
    · have hd : decide (r < 0) = true := decide_eq_true hneg
      go_wp2
      go_ret
      exact ⟨rfl, B.out⟩
    · skip
      have hd : decide (r < 0) = false := decide_eq_false hneg
      have hv1 : v = true := by
        cases v
        · exfalso; apply hneg; rw [← HR.out, winnerF, HV.out]; simp
        · rfl
      subst hv1
      obtain ⟨hpv, hn1i, hn5i, -⟩ := fits_parts HV.out
      have hn1 : 1 ≤ n := by omega
      have hn5 : n ≤ 5 := by omega
      have HP := Lib.hid hpv
      clear hpv hn1i hn5i
      obtain ⟨x0, hx0, hw0, hr0⟩ : ∃ x0, x0 < n ∧ Wins (pairF xs) n x0 ∧ r = (x0 : Int) := by
        have e : winnerF xs (n : Int) = pairW (pairF xs) n := by rw [winnerF, HV.out]; rfl
        rcases pairW_cases (pairF xs) n with ⟨h1, _⟩ | ⟨x, hx, hw, h1⟩
        · exfalso; apply hneg; rw [← HR.out, e, h1]; simp
        · exact ⟨x, hx, hw, by rw [← HR.out, e, h1]⟩
      subst hr0
      have HW := Lib.hid hw0
      clear hneg hw0
      have HLOW : Hid (∀ x y, 0 ≤ pairF xs x y) := fun x y => pairF_low (pilesB_pos HP.out).2.1 x y
      have HTOP : Hid (ptopF xs (n : Int) = [(x0 : Int)]) := by
        unfold Hid ptopF; rw [HV.out]; simp only [if_true, Int.toNat_natCast]
        exact cand_one hx0 (fun x hx => by rw [ptopB_iff]; exact wins_top hx0 HW.out hx)
      have HBEST : Hid (pbestF xs (n : Int) = [(x0 : Int)]) := by
        unfold Hid pbestF; rw [HV.out]; simp only [if_true, Int.toNat_natCast]
        exact cand_one hx0 (fun x hx => by rw [pbestB_iff]; exact wins_best HLOW.out hx0 HW.out hx)
      have hge : decide ((n : Int) ≤ (x0 : Int)) = false := decide_eq_false (by omega)
      have hd0 : decide ((x0 : Int) < 0) = false := decide_eq_false (by omega)
      have hne : ((n : Int) != (n : Int)) = false := by simp
      go_wp2_with fail
      refine (implPairCounts_as _ _ _ xs (n : Int) true _ P.out.piles HSM.out HV.out).mono ?_
      rintro e w4 (⟨h, _⟩ | ⟨-, gt, G, rfl, hT, -, hb⟩)
      · cases h
      rw [Int.toNat_natCast] at hT ⊢
      have P := Lib.hid (P.out.below hb)
      have T := Lib.hid hT
      have B := Lib.hid (B.out.trans (hb.mono B.out.size))
      clear hb hT
      go_wp2
      go_loopw [9] (fun yv wr => ∃ y : Nat, y ≤ n ∧ yv = .int .i64 (y : Int) ∧ Dr w4 wr) (fun yv _ => n - (intOf yv).toNat)
      case atStart => exact ⟨0, Nat.zero_le _, rfl, Dr.refl _⟩
      case round =>
        obtain ⟨y, hy, rfl, hby⟩ := hrel
        by_cases hlt2 : y < n
        · by_cases hxy : y = x0
          · subst hxy
            have he : ((y : Int) != (y : Int)) = false := by simp
            go_wp2_with fail
            go_quiet (fail)
            go_wp2
            go_roundw
            case rel => exact ⟨y + 1, by omega, by go_num, hby.drewN _⟩
            case measure => simp [intOf]; omega
          · have he : ((y : Int) != (x0 : Int)) = true := bne_iff_ne.2 (by omega)
            have U := Lib.hid (T.out.under (hby.below _))
            have rU0 := U.out.row_cell hx0 (Nat.le_refl _)
            have rU1 := U.out.row_cell hlt2 (Nat.le_refl _)
            have kUp := U.out.cell hx0 hlt2
            have kUq := U.out.cell hlt2 hx0
            obtain ⟨gU0, hgU0⟩ : ∃ gU0, G x0 = gU0 := ⟨_, rfl⟩
            rw [hgU0] at rU0 kUp
            clear hgU0
            obtain ⟨gU1, hgU1⟩ : ∃ gU1, G y = gU1 := ⟨_, rfl⟩
            rw [hgU1] at rU1 kUq
            clear hgU1
            obtain ⟨p, hp⟩ : ∃ p, pairF xs x0 y = p := ⟨_, rfl⟩
            simp only [hp] at kUp
            obtain ⟨q, hq⟩ : ∃ q, pairF xs y x0 = q := ⟨_, rfl⟩
            simp only [hq] at kUq
            have hle : decide (p ≤ q) = false := decide_eq_false (by rw [← hp, ← hq]; have := HW.out y hlt2 hxy; omega)
            have hxi : (x0 : Int) < (n : Int) := by omega
            have hyi : (y : Int) < (n : Int) := by omega
            clear hp hq
            go_wp2_with fail
            go_quiet (fail)
            go_wp2
            go_roundw
            case rel => exact ⟨y + 1, by omega, by go_num, hby.drewN _⟩
            case measure => simp [intOf]; omega
        · obtain rfl : y = n := by omega
          have P := Lib.hid (P.out.below (hby.below _))
          have B := Lib.hid (B.out.trans (hby.below _))
          rename World => wz
          clear T
          go_wp2_with fail
          refine (implPairTop_as _ _ _ xs _ [(x0 : Int)] _ P.out.piles HSM.out HTOP.out).mono ?_
          rintro e w6 ⟨aL, cL, rfl, ho, hb⟩
          have P := Lib.hid (P.out.below hb)
          have L1 := Lib.hid (IsInts.of_owned ho (by simp))
          have B := Lib.hid (B.out.trans (hb.mono B.out.size))
          clear hb ho
          have hl1 : [(x0 : Int)].length = 1 := rfl
          rw [hl1] at L1 ⊢
          clear hl1
          obtain ⟨wl, hwl⟩ : ∃ wl, w6.alloc (.cells #[.int .i64 (x0 : Int)] 3) = wl := ⟨_, rfl⟩
          have hbl : Below w6.heap.size w6 wl := hwl ▸ (Below.refl _ w6).alloc (Nat.le_refl _) _
          have IL : Hid (IsInts wl (some ⟨w6.heap.size, 0, none⟩) 1 1 [(x0 : Int)]) := hwl ▸ lit_one w6 (x0 : Int) _
          have P := Lib.hid (P.out.below hbl)
          have L1 := Lib.hid (L1.out.below hbl)
          have B := Lib.hid (B.out.trans (hbl.mono B.out.size))
          have hs1 : eqB [(x0 : Int)] [(x0 : Int)] = true := eqB_self _
          clear hbl
          go_wp2_with fail
          refine (sameInts_any _ _ _ [(x0 : Int)] _ _ _ [(x0 : Int)] _ L1.out IL.out).mono ?_
          rintro e w7 ⟨he, hd⟩
          rw [hs1] at he
          subst he
          have hb := hd.below wl.heap.size
          have P := Lib.hid (P.out.below hb)
          have L1 := Lib.hid (L1.out.below hb)
          have B := Lib.hid (B.out.trans (hb.mono B.out.size))
          clear hb hd hs1 IL hwl
          go_wp2_with fail
          refine (implPairBest_as _ _ _ xs _ [(x0 : Int)] _ P.out.piles HSM.out HBEST.out).mono ?_
          rintro e w8 ⟨aL, cL, rfl, ho, hb⟩
          have P := Lib.hid (P.out.below hb)
          have L1 := Lib.hid (L1.out.below hb)
          have L2 := Lib.hid (IsInts.of_owned ho (by simp))
          have B := Lib.hid (B.out.trans (hb.mono B.out.size))
          clear hb ho
          have hl1 : [(x0 : Int)].length = 1 := rfl
          rw [hl1] at L2 ⊢
          clear hl1
          obtain ⟨wl, hwl⟩ : ∃ wl, w8.alloc (.cells #[.int .i64 (x0 : Int)] 3) = wl := ⟨_, rfl⟩
          have hbl : Below w8.heap.size w8 wl := hwl ▸ (Below.refl _ w8).alloc (Nat.le_refl _) _
          have IL : Hid (IsInts wl (some ⟨w8.heap.size, 0, none⟩) 1 1 [(x0 : Int)]) := hwl ▸ lit_one w8 (x0 : Int) _
          have P := Lib.hid (P.out.below hbl)
          have L1 := Lib.hid (L1.out.below hbl)
          have L2 := Lib.hid (L2.out.below hbl)
          have B := Lib.hid (B.out.trans (hbl.mono B.out.size))
          have hs1 : eqB [(x0 : Int)] [(x0 : Int)] = true := eqB_self _
          clear hbl
          go_wp2_with fail
          refine (sameInts_any _ _ _ [(x0 : Int)] _ _ _ [(x0 : Int)] _ L2.out IL.out).mono ?_
          rintro e w9 ⟨he, hd⟩
          rw [hs1] at he
          subst he
          have hb := hd.below wl.heap.size
          have P := Lib.hid (P.out.below hb)
          have L1 := Lib.hid (L1.out.below hb)
          have L2 := Lib.hid (L2.out.below hb)
          have B := Lib.hid (B.out.trans (hb.mono B.out.size))
          clear hb hd hs1 IL hwl
          go_wp2
          go_ret
          exact ⟨rfl, B.out⟩
  · clear w0
    go_enter Try.func5, Try.ntmps5
    go_wp2
    go_ret
    exact ⟨rfl, Below.refl _ _⟩

end Go.Proofs.Ytaaamidkfhabnaa.fnPairWinner
