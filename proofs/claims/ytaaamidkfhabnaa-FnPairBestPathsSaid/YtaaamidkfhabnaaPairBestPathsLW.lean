/-
  laws.FnPairBestPaths returns true for every code. No condition.
-/
import Derived.Test.YtaaamidkfhabnaaGrp4
import Derived.Test.YtaaamidkfhabnaaGrp13
import Derived.Test.YtaaamidkfhabnaaPthS
import Derived.Test.YtaaamidkfhabnaaGrp14
import Derived.Test.YtaaamidkfhabnaaGrp15
import Derived.Test.YtaaamidkfhabnaaGrp3
import Derived.Test.YtaaamidkfhabnaaGrp12
namespace Go.Proofs.Ytaaamidkfhabnaa.fnPairBestPaths
open Go.RowKit
set_option linter.unusedVariables false


set_option maxRecDepth 100000 in
set_option maxHeartbeats 2000000 in
/-- The law's walk: it returns true, and writes nothing that was there. -/
theorem walk (a0 : Option Addr) (len0 cap0 : Nat) (z0 : List Int) (w : World) (w0 : IsRow .u8 w a0 len0 cap0 z0) :
    Calls Try.prog 12 #[.slice a0 len0 cap0] w fun e w' => e = .returned (.bool true) ∧ Below w.heap.size w w' := by
  by_cases hl : len0 ≤ 1048576
  · skip
    have hcap := w0.cap
    have HB := Lib.hid w0.bytes; clear w0
    go_enter Try.func12, Try.ntmps12
    go_wp2_with fail
    refine (drawXBest_any a0 len0 cap0 _ _ HB.out hcap (by omega)).mono ?_
    rintro e w1 ⟨xs, g, c, n, rfl, hp, hn6, hb⟩
    have P := Lib.hid hp
    have B := Lib.hid hb
    have HSM := Lib.hid hp.2.1
    have hl13 := hp.2.2.2
    clear hb HB hp
    obtain ⟨v, hv⟩ : ∃ v, fitsB xs (n : Int) = v := ⟨_, rfl⟩
    have HV := Lib.hid hv
    obtain ⟨r, hr⟩ : ∃ r, pbestF xs (n : Int) = r := ⟨_, rfl⟩
    have hlen : r.length ≤ 5 := by rw [← hr]; exact pbestF_short
    have HR := Lib.hid hr
    clear hr hv
    go_wp2_with fail
    refine (implPairBest_as _ _ _ xs (n : Int) r _ P.out.piles HSM.out HR.out).mono ?_
    rintro e w2 ⟨aL, cL, rfl, ho, hb⟩
    have P := Lib.hid (P.out.below hb)
    have L1 := Lib.hid (IsInts.of_owned ho (by omega))
    have B := Lib.hid (B.out.trans (hb.mono B.out.size))
    clear hb ho
    go_wp2_with fail
    refine (specPairBest_as _ _ _ xs (n : Int) r _ P.out.piles HSM.out HR.out).mono ?_
    rintro e w3 ⟨aM, cM, rfl, ho, hb⟩
    have P := Lib.hid (P.out.below hb)
    have L1 := Lib.hid (L1.out.below hb)
    have L2 := Lib.hid (IsInts.of_owned ho (by omega))
    have B := Lib.hid (B.out.trans (hb.mono B.out.size))
    clear hb ho
    go_wp2_with fail
    refine (sameInts_self _ _ _ r _ _ _ L1.out L2.out).mono ?_
    rintro e w4 ⟨rfl, hd⟩
    have hb := hd.below w3.heap.size
    have P := Lib.hid (P.out.below hb)
    have L1 := Lib.hid (L1.out.below hb)
    have L2 := Lib.hid (L2.out.below hb)
    have B := Lib.hid (B.out.trans (hb.mono B.out.size))
    clear hb hd
    by_cases hz : r.length = 0
    · have hzi : ((r.length : Int) == 0) = true := by rw [hz]; rfl
      clear hz
      go_wp2_with fail
      refine (sameInts_self _ _ _ r _ _ _ L1.out L2.out).mono ?_
      rintro e w5 ⟨rfl, hd⟩
      have hb := hd.below w4.heap.size
      have P := Lib.hid (P.out.below hb)
      have L1 := Lib.hid (L1.out.below hb)
      have L2 := Lib.hid (L2.out.below hb)
      have B := Lib.hid (B.out.trans (hb.mono B.out.size))
      clear hb hd
      go_wp2
      go_ret
      exact ⟨rfl, B.out⟩
    · skip
      have hzi : ((r.length : Int) == 0) = false := beq_eq_false_iff_ne.2 (by omega)
      have hv1 : v = true := by
        cases v
        · exfalso
          have e : r = [] := by rw [← HR.out, pbestF, HV.out]; rfl
          rw [e] at hz
          simp at hz
        · rfl
      subst hv1
      obtain ⟨hpv, hn1i, hn5i, -⟩ := fits_parts HV.out
      have hn1 : 1 ≤ n := by omega
      have hn5 : n ≤ 5 := by omega
      have HP := Lib.hid hpv
      clear hpv hn1i hn5i
      clear L2
      have HL : Hid (r = candTo (pbestB (pairF xs) n) n) := by rw [Hid, ← HR.out, pbestF, HV.out]; rfl
      have hne : ((n : Int) != (n : Int)) = false := by simp
      go_wp2_with fail
      refine (implPairPaths_as _ _ _ xs (n : Int) true _ P.out.piles HSM.out HV.out).mono ?_
      rintro e w5 (⟨h, _⟩ | ⟨-, gt, G, rfl, hT, -, hb⟩)
      · cases h
      rw [Int.toNat_natCast] at hT ⊢
      have P := Lib.hid (P.out.below hb)
      have L1 := Lib.hid (L1.out.below hb)
      have T := Lib.hid hT
      have B := Lib.hid (B.out.trans (hb.mono B.out.size))
      clear hb hT
      go_wp2
      go_loopw [9, 10, 11] (fun xv _ _ wr => ∃ x : Nat, x ≤ n ∧ xv = .int .i64 (x : Int) ∧ Dr w5 wr) (fun xv _ _ _ => n - (intOf xv).toNat)
      case atStart => exact ⟨0, Nat.zero_le _, rfl, Dr.refl _⟩
      case round =>
        obtain ⟨x, hx, rfl, hbx⟩ := hrel
        by_cases hlt : x < n
        · go_wp2
          go_loopw [10, 11] (fun sv yv wr => ∃ (y : Nat) (u : Bool), y ≤ n ∧ yv = .int .i64 (y : Int) ∧ sv = .bool u ∧ Hid (allTo (fun y => decide (pathL (pairF xs) n y x ≤ pathL (pairF xs) n x y)) y = u) ∧ Dr w5 wr) (fun _ yv _ => n - (intOf yv).toNat)
          case atStart => exact ⟨0, true, Nat.zero_le _, rfl, rfl, rfl, hbx⟩
          case round =>
            obtain ⟨y, u, hy, rfl, rfl, hA, hby⟩ := hrel
            by_cases hlt2 : y < n
            · cases u
              · skip
                go_wp2_with fail
                go_quiet (fail)
                go_wp2
                go_roundw
                case rel => exact ⟨y + 1, false, by omega, by go_num, rfl, by unfold Hid; rw [allTo_succ, hA.out]; rfl, hby.drewN _⟩
                case measure => simp [intOf]; omega
              · skip
                have U := Lib.hid (T.out.under (hby.below _))
                have rU0 := U.out.row_cell hlt (Nat.le_refl _)
                have rU1 := U.out.row_cell hlt2 (Nat.le_refl _)
                have kUp := U.out.cell hlt hlt2
                have kUq := U.out.cell hlt2 hlt
                obtain ⟨gU0, hgU0⟩ : ∃ gU0, G x = gU0 := ⟨_, rfl⟩
                rw [hgU0] at rU0 kUp
                clear hgU0
                obtain ⟨gU1, hgU1⟩ : ∃ gU1, G y = gU1 := ⟨_, rfl⟩
                rw [hgU1] at rU1 kUq
                clear hgU1
                obtain ⟨p, hp⟩ : ∃ p, pathL (pairF xs) n x y = p := ⟨_, rfl⟩
                simp only [hp] at kUp
                obtain ⟨q, hq⟩ : ∃ q, pathL (pairF xs) n y x = q := ⟨_, rfl⟩
                simp only [hq] at kUq
                obtain ⟨v2, hv2⟩ : ∃ v2, decide (q ≤ p) = v2 := ⟨_, rfl⟩
                have HNX : Hid (allTo (fun y => decide (pathL (pairF xs) n y x ≤ pathL (pairF xs) n x y)) (y + 1) = v2) := by unfold Hid; rw [allTo_succ, hA.out, hp, hq, hv2]; rfl
                have hxi : (x : Int) < (n : Int) := by omega
                have hyi : (y : Int) < (n : Int) := by omega
                clear hp hq
                go_wp2_with fail
                go_quiet (fail)
                go_wp2
                go_roundw
                case rel => exact ⟨y + 1, v2, by omega, by go_num, rfl, HNX, hby.drewN _⟩
                case measure => simp [intOf]; omega
            · obtain rfl : y = n := by omega
              have HHX : Hid (hasB r (x : Int) = u) := by
                rw [Hid, HL.out, cand_hasB hlt]; exact hA.out
              have huu : (u != u) = false := by cases u <;> rfl
              go_wp2_with fail
              refine (hasInt_as8 _ _ _ r _ u _ (L1.out.dr hby) HHX.out).mono ?_
              rintro e w9 ⟨rfl, rfl⟩
              go_wp2
              go_roundw
              case rel => exact ⟨x + 1, by omega, by go_num, hby⟩
              case measure => simp [intOf]; omega
        · obtain rfl : x = n := by omega
          go_wp2
          go_ret
          exact ⟨rfl, B.out.trans (hbx.below _)⟩
  · clear w0
    go_enter Try.func12, Try.ntmps12
    go_wp2
    go_ret
    exact ⟨rfl, Below.refl _ _⟩

end Go.Proofs.Ytaaamidkfhabnaa.fnPairBestPaths
