/-
  laws.FnLotsMore returns true for every code: impl.LotsOf answers as the model does at the drawn numbers, and a seed that is greater by the number of all orders gives the same lots. No condition but what the statement says itself (a code of at most 2^20 bytes).
-/
import Derived.Test.YtapmmbngfklahaaOpen
import Derived.Test.YtapmmbngfklahaaLotOS
import Derived.Test.YtapmmbngfklahaaLotOI
import Derived.Test.YtapmmbngfklahaaLotD
import Derived.Test.YtapmmbngfklahaaSame
namespace Go.Proofs.Ytapmmbngfklahaa.fnLotsMore
open Go.RowKit
set_option linter.unusedVariables false

theorem fact_up (q : Nat) : factN (q + 2) = factN (q + 1) * (q + 2) := by rw [factN, Nat.mul_comm]
theorem fact_le {k : Nat} (h : k ≤ 5) : factN k ≤ 120 := by
  have e : k = 0 ∨ k = 1 ∨ k = 2 ∨ k = 3 ∨ k = 4 ∨ k = 5 := by omega
  rcases e with rfl | rfl | rfl | rfl | rfl | rfl <;> decide
set_option maxRecDepth 100000 in
set_option maxHeartbeats 2000000 in
/-- The law's walk: it returns true, and writes nothing that was there. -/
theorem walk (a0 : Option Addr) (len0 cap0 : Nat) (z0 : List Int) (w : World) (w0 : IsRow .u8 w a0 len0 cap0 z0) :
    Calls Try.prog 4 #[.slice a0 len0 cap0] w fun e w' => e = .returned (.bool true) ∧ Below w.heap.size w w' := by
  by_cases hl : len0 ≤ 1048576
  · have hcap := w0.cap
    have HB := Lib.hid w0.bytes; clear w0
    go_enter Try.func4, Try.ntmps4
    go_wp2_with fail
    refine (drawLotsOf_any a0 len0 cap0 _ _ HB.out hcap (by omega)).mono ?_
    rintro e w1 ⟨x, y, rfl, hx, hy, hb⟩
    have B1 := Lib.hid hb; clear hb HB
    obtain ⟨pl, hpl⟩ : ∃ pl, lotsI x y = pl := ⟨_, rfl⟩
    obtain ⟨ok, hok⟩ : ∃ ok, okLots x y = ok := ⟨_, rfl⟩
    have hp5 : pl.length ≤ 5 := by rw [← hpl]; exact lotsI_short x y
    have HP := Lib.hid hpl
    have HK := Lib.hid hok
    clear hpl hok
    have he : eqB pl pl = true := eqB_self pl
    have hne : (ok != ok) = false := by cases ok <;> rfl
    have heq : (ok == ok) = true := by cases ok <;> rfl
    go_wp2_with fail
    refine (implLotsOf_as _ _ pl ok _ HP.out HK.out).mono ?_
    rintro e w2 ⟨a2, c2, rfl, ho, hb⟩
    have O2 := Lib.hid ho; clear ho
    have B2 := Lib.hid (B1.out.trans (hb.mono B1.out.size)); clear hb B1
    go_wp2_with fail
    refine (specLotsOf_as _ _ pl ok _ HP.out HK.out).mono ?_
    rintro e w3 ⟨a3, c3, rfl, ho, hb⟩
    have I3 := Lib.hid (IsInts.of_owned ho (by omega)); clear ho
    have O2 := Lib.hid (owns_under O2.out hb)
    have B3 := Lib.hid (B2.out.trans (hb.mono B2.out.size)); clear hb B2
    go_wp2_with fail
    refine (sameInts_any _ _ _ pl _ _ _ pl _ (IsInts.of_owned O2.out (by omega)) I3.out).mono ?_
    rintro e w4 ⟨rfl, hd⟩
    have O2 := Lib.hid (owns_under O2.out (hd.below _))
    have I3 := Lib.hid (I3.out.dr hd)
    have B4 := Lib.hid (B3.out.trans (hd.below _)); clear hd B3
    cases hk : ok
    · subst hk
      go_wp2_with fail
      refine (sameInts_any _ _ _ pl _ _ _ pl _ (IsInts.of_owned O2.out (by omega)) I3.out).mono ?_
      rintro e w5 ⟨rfl, hd⟩
      have B5 := Lib.hid (B4.out.trans (hd.below _)); clear hd B4
      go_wp2
      go_ret
      exact ⟨rfl, B5.out⟩
    · subst hk
      obtain ⟨⟨hx1, hx5⟩, hy0, hy9⟩ := okLots_of HK.out
      obtain ⟨n, rfl⟩ := Int.eq_ofNat_of_zero_le (show 0 ≤ x by omega)
      obtain ⟨s, rfl⟩ := Int.eq_ofNat_of_zero_le hy0
      go_wp2
      go_loop [9, 10] (fun kv iv => ∃ j f : Nat, 2 ≤ j ∧ j ≤ n + 1 ∧ iv = .int .i64 (j : Int) ∧ kv = .int .i64 (f : Int) ∧ Hid (f = factN (j - 1))) (fun _ iv => n + 1 - (intOf iv).toNat)
      case atStart => exact ⟨2, 1, by omega, by omega, rfl, rfl, rfl⟩
      case round =>
        obtain ⟨j, f, hj2, hjn, rfl, rfl, hf⟩ := hrel
        by_cases hlt : j ≤ n
        · obtain ⟨q, rfl⟩ : ∃ q, j = q + 2 := ⟨j - 2, by omega⟩
          obtain ⟨g, hg⟩ : ∃ g, factN (q + 2) = g := ⟨_, rfl⟩
          have hg5 : g ≤ 120 := by rw [← hg]; exact fact_le (by omega)
          have hfg : f * (q + 2) = g := by rw [hf.out, ← hg, fact_up]; rfl
          have hp : (f : Int) * ((q : Int) + 2) = (g : Int) := by rw [← hfg]; simp
          have HG := Lib.hid hg
          have hd1 : decide ((q : Int) + 2 ≤ (n : Int)) = true := decide_eq_true (by omega)
          have hd1' : decide (q + 2 ≤ n) = true := decide_eq_true (by omega)
          clear hg hfg
          go_wp2
          go_round
          case rel => exact ⟨q + 3, g, by omega, by omega, by go_num, by first | rfl | (rw [IntWalk.wrap64_in _ ⟨by omega, by omega⟩]) | (rw [hp, IntWalk.wrap64_in _ ⟨by omega, by omega⟩]), HG.out.symm⟩
          case measure => simp [intOf]; omega
        · obtain rfl : j = n + 1 := by omega
          have hd1 : decide ((n : Int) + 1 ≤ (n : Int)) = false := decide_eq_false (by omega)
          have hd1' : decide (n + 1 ≤ n) = false := decide_eq_false (by omega)
          have HF : Hid (f = factN n) := hf.out
          have hf5 : f ≤ 120 := by rw [HF.out]; exact fact_le (by omega)
          by_cases hbig : 999 < s + f
          · have hd2 : decide ((999 : Int) < (s : Int) + (f : Int)) = true := decide_eq_true (by omega)
            have hd2' : decide (999 < s + f) = true := decide_eq_true hbig
            go_wp2
            go_ret
            exact ⟨rfl, B4.out⟩
          · have hd2 : decide ((999 : Int) < (s : Int) + (f : Int)) = false := decide_eq_false (by omega)
            have hd2' : decide (999 < s + f) = false := decide_eq_false hbig
            have HK2 : Hid (okLots (n : Int) ((s : Int) + (f : Int)) = true) := okLots_yes hx1 hx5 (by omega) (by omega)
            have HP2 : Hid (lotsI (n : Int) ((s : Int) + (f : Int)) = pl) := by
              have e : (f : Int) = factI (n : Int) := by unfold factI; rw [Int.toNat_natCast, HF.out]
              have k2 := HK2.out
              unfold Hid
              rw [e] at k2 ⊢
              rw [lotsI_more HK.out k2]; exact HP.out
            go_wp2_with fail
            refine (implLotsOf_as _ _ pl true _ HP2.out HK2.out).mono ?_
            rintro e w6 ⟨a6, c6, rfl, ho, hb⟩
            have I6 := Lib.hid (IsInts.of_owned ho (by omega)); clear ho
            have O2 := Lib.hid (owns_under O2.out hb)
            have B6 := Lib.hid (B4.out.trans (hb.mono B4.out.size)); clear hb B4
            go_wp2_with fail
            refine (sameInts_any _ _ _ pl _ _ _ pl _ I6.out (IsInts.of_owned O2.out (by omega))).mono ?_
            rintro e w7 ⟨rfl, hd⟩
            have B7 := Lib.hid (B6.out.trans (hd.below _)); clear hd B6
            go_wp2
            go_ret
            exact ⟨rfl, B7.out⟩
  · have hl' : (1048576 : Int) < (len0 : Int) := by omega
    clear w0
    go_enter Try.func4, Try.ntmps4
    go_wp2
    go_ret
    exact ⟨rfl, Below.refl _ _⟩

end Go.Proofs.Ytapmmbngfklahaa.fnLotsMore
