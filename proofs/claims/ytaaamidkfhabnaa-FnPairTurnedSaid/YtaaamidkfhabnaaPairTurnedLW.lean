/-
  laws.FnPairTurned returns true for every two codes. No condition.
-/
import Derived.Test.YtaaamidkfhabnaaGrp4
import Derived.Test.YtaaamidkfhabnaaGrp13
import Derived.Test.YtaaamidkfhabnaaGrp11
import Derived.Test.YtaaamidkfhabnaaGrp12
import Derived.Test.YtaaamidkfhabnaaGrp15
namespace Go.Proofs.Ytaaamidkfhabnaa.fnPairTurned
open Go.RowKit
set_option linter.unusedVariables false


set_option maxRecDepth 100000 in
set_option maxHeartbeats 2000000 in
/-- The law's walk: it returns true, and writes nothing that was there. -/
theorem walk (a0 : Option Addr) (len0 cap0 : Nat) (z0 : List Int) (a1 : Option Addr) (len1 cap1 : Nat) (z1 : List Int) (w : World) (w0 : IsRow .u8 w a0 len0 cap0 z0) (w1 : IsRow .u8 w a1 len1 cap1 z1) :
    Calls Try.prog 13 #[.slice a0 len0 cap0, .slice a1 len1 cap1] w fun e w' => e = .returned (.bool true) ∧ Below w.heap.size w w' := by
  by_cases hl : len0 ≤ 1048576 ∧ len1 ≤ 1048576
  · obtain ⟨hl, hl1⟩ := hl
    have hl1i : decide ((1048576 : Int) < (len1 : Int)) = false := decide_eq_false (by omega)
    have hcap := w0.cap
    have HB := Lib.hid w0.bytes; clear w0 w1
    go_enter Try.func13, Try.ntmps13
    go_wp2_with fail
    refine (drawXWinner_any a0 len0 cap0 _ _ HB.out hcap (by omega)).mono ?_
    rintro e w1 ⟨xs, g, c, n, rfl, hp, hn6, hb⟩
    have P := Lib.hid hp
    have B := Lib.hid hb
    have HSM := Lib.hid hp.2.1
    have hl13 := hp.2.2.2
    clear hb HB hp
    obtain ⟨v, hv⟩ : ∃ v, fitsB xs (n : Int) = v := ⟨_, rfl⟩
    have HV := Lib.hid hv
    obtain ⟨r, hr⟩ : ∃ r, winnerF xs (n : Int) = r := ⟨_, rfl⟩
    have HR := Lib.hid hr
    clear hr hv
    go_wp2_with fail
    refine (implPairWinner_as _ _ _ xs (n : Int) r _ P.out.piles HSM.out HR.out).mono ?_
    rintro e w2 ⟨rfl, hb⟩
    have P := Lib.hid (P.out.below hb)
    have B := Lib.hid (B.out.trans (hb.mono B.out.size))
    clear hb
    go_wp2_with fail
    refine (specPairWinner_as _ _ _ xs (n : Int) r _ P.out.piles HSM.out HR.out).mono ?_
    rintro e w3 ⟨rfl, hb⟩
    have P := Lib.hid (P.out.below hb)
    have B := Lib.hid (B.out.trans (hb.mono B.out.size))
    clear hb
    have hrr : (r != r) = false := by simp
    have hre : (r == r) = true := by simp
    by_cases hneg : r < 0
    · have hd : decide (r < 0) = true := decide_eq_true hneg
      go_wp2
      go_ret
      exact ⟨rfl, B.out⟩
    · skip
      have hd : decide (r < 0) = false := decide_eq_false hneg
      have hv1 : v = true := by
        cases v
        · exfalso; apply hneg; rw [← HR.out, winnerF, HV.out]; simp
        · rfl
      subst hv1
      obtain ⟨hpv, hn1i, hn5i, -⟩ := fits_parts HV.out
      have hn1 : 1 ≤ n := by omega
      have hn5 : n ≤ 5 := by omega
      have HP := Lib.hid hpv
      clear hpv hn1i hn5i
      obtain ⟨x0, hx0, hw0, hr0⟩ : ∃ x0, x0 < n ∧ Wins (pairF xs) n x0 ∧ r = (x0 : Int) := by
        have e : winnerF xs (n : Int) = pairW (pairF xs) n := by rw [winnerF, HV.out]; rfl
        rcases pairW_cases (pairF xs) n with ⟨h1, _⟩ | ⟨x, hx, hw, h1⟩
        · exfalso; apply hneg; rw [← HR.out, e, h1]; simp
        · exact ⟨x, hx, hw, by rw [← HR.out, e, h1]⟩
      subst hr0
      have HW := Lib.hid hw0
      clear hneg hw0
      obtain ⟨x, hxn, hxe⟩ : ∃ x : Nat, x < n ∧ (len1 : Int) % (n : Int) = (x : Int) := ⟨len1 % n, Nat.mod_lt _ (by omega), by push_cast; rfl⟩
      obtain ⟨d, hde⟩ : ∃ d : Nat, (len1 : Int) / 7 = (d : Int) := ⟨len1 / 7, by push_cast; rfl⟩
      obtain ⟨y, hyn, hye⟩ : ∃ y : Nat, y < n ∧ (d : Int) % (n : Int) = (y : Int) := ⟨d % n, Nat.mod_lt _ (by omega), by push_cast; rfl⟩
      have hnz : ((n : Int) == 0) = false := beq_eq_false_iff_ne.2 (by omega)
      have hdn : (len1 : Int).tdiv 7 = (d : Int) := by rw [Int.tdiv_eq_ediv_of_nonneg (by omega)]; exact hde
      have hxt : (len1 : Int).tmod (n : Int) = (x : Int) := by rw [Int.tmod_eq_emod_of_nonneg (by omega)]; exact hxe
      have hyt : (d : Int).tmod (n : Int) = (y : Int) := by rw [Int.tmod_eq_emod_of_nonneg (by omega)]; exact hye
      have hdb : 0 ≤ (d : Int) ∧ (d : Int) ≤ 1048576 := by omega
      have hcan : canB xs (x : Int) (y : Int) = true := (canB_iff _ _ _).2 ⟨HP.out, ⟨by omega, by omega⟩, ⟨by omega, by omega⟩⟩
      obtain ⟨q, hq⟩ : ∃ q, canL xs (x : Int) (y : Int) = q := ⟨_, rfl⟩
      have hqe : q = turnPs (x : Int) (y : Int) xs := by rw [← hq, canL, hcan]; rfl
      have hrc := of_cases (canL_cases xs (x : Int) (y : Int))
      rw [hq] at hrc
      have hq12 := hrc.1
      have HSQ := Lib.hid hrc.2
      have HQ := Lib.hid hq
      have HC := Lib.hid hcan
      have HWQ : Hid (winnerF q (n : Int) = swapC (x : Int) (y : Int) (x0 : Int)) := by
        rw [hqe]
        exact winner_turn HV.out hxn hyn hx0 HW.out
      clear hq hqe hrc hcan
      go_wp2_with fail
      refine (implTurn_as _ _ _ xs (x : Int) (y : Int) q true _ P.out.piles HSM.out HQ.out HC.out).mono ?_
      rintro e w4 ⟨aq, cq, rfl, ho, hb, hn⟩
      have P := Lib.hid (P.out.below hb)
      have IQ := Lib.hid (IsPiles.of_owned ho (by omega))
      have B := Lib.hid (B.out.trans (hb.mono B.out.size))
      clear hb ho hn hnz hdn hxt hyt hxe hde hye
      obtain ⟨r2, hr2⟩ : ∃ r2, swapC (x : Int) (y : Int) (x0 : Int) = r2 := ⟨_, rfl⟩
      have HR2 := Lib.hid hr2
      rw [hr2] at HWQ
      clear hr2
      go_wp2_with fail
      refine (implPairWinner_as _ _ _ q (n : Int) r2 _ IQ.out HSQ.out HWQ.out).mono ?_
      rintro e w5 ⟨rfl, hb⟩
      have P := Lib.hid (P.out.below hb)
      have IQ := Lib.hid (IQ.out.below hb)
      have B := Lib.hid (B.out.trans (hb.mono B.out.size))
      clear hb
      go_wp2_with fail
      refine (turned_any (x0 : Int) (x : Int) (y : Int) _).mono ?_
      rintro e w6 ⟨he, rfl⟩
      rw [HR2.out] at he
      subst he
      have hee : (r2 == r2) = true := by simp
      go_wp2
      go_ret
      exact ⟨rfl, B.out⟩
  · clear w0 w1
    go_enter Try.func13, Try.ntmps13
    go_wp2
    all_goals
      go_ret
      exact ⟨rfl, Below.refl _ _⟩

end Go.Proofs.Ytaaamidkfhabnaa.fnPairTurned
