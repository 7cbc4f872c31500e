/-
  impl's votes, seats and lots: contracts. They write into no memory that was there.
-/
import Derived.Test.YtbcemgmfkddafaaGrp4
import Derived.Test.YtbcemgmfkddafaaGrp8
import Derived.Test.YtbcemgmfkddafaaGrp5
namespace Go.Proofs.Ytbcemgmfkddafaa
open Go.RowKit

attribute [local go_sem] Oper.semAt_some

set_option maxHeartbeats 1000000 in
/-- **seatsInRange**. -/
theorem inRange_as (s : Int) (v : Bool) (w : World) (hv : inB s 0 20 = v) :
    Calls Try.prog 47 #[.int .i64 s] w fun e w' => e = .returned (.bool v) ∧ w = w' := by
  by_cases h0 : s < 0
  · have e : v = false := by rw [← hv]; simp [inB]; omega
    subst e
    clear hv
    go_enter Try.func47, Try.ntmps47
    go_wp2
    go_ret
    exact ⟨rfl, rfl⟩
  · by_cases h1 : 20 < s
    · have e : v = false := by rw [← hv]; simp [inB]; omega
      subst e
      clear hv
      go_enter Try.func47, Try.ntmps47
      go_wp2
      go_ret
      exact ⟨by first | rfl | exact ret_bool (decide_eq_false (by omega)), rfl⟩
    · have e : v = true := by rw [← hv]; simp [inB]; omega
      subst e
      clear hv
      go_enter Try.func47, Try.ntmps47
      go_wp2
      go_ret
      exact ⟨by first | rfl | exact ret_bool (decide_eq_true (by omega)), rfl⟩

set_option maxHeartbeats 1000000 in
/-- **votesValid**. -/
theorem votes_as (a : Option Addr) (len cap : Nat) (zs : List Int) (v : Bool) (w : World) (h : IsInts w a len cap zs) (hv : voteB zs = v) :
    Calls Try.prog 48 #[.slice a len cap] w fun e w' => e = .returned (.bool v) ∧ w = w' := by
  have HI := Lib.hid h
  obtain ⟨v1, h1⟩ : ∃ v1, choB zs 99 = v1 := ⟨_, rfl⟩
  have HC := Lib.hid h1
  have HL := Lib.hid h.1
  have HV : Hid (v = (v1 && decide (0 < totI zs))) := by unfold Hid; rw [← hv, ← h1]; rfl
  clear h hv h1
  go_enter Try.func48, Try.ntmps48
  go_wp2_with fail
  refine (choices_as _ _ _ zs 99 v1 _ HI.out HC.out).mono ?_
  rintro e w1 ⟨rfl, rfl⟩
  cases v1
  · go_wp2
    go_ret
    exact ⟨ret_bool HV.out.symm, rfl⟩
  · obtain ⟨c1, c2, c3⟩ := (choB_iff zs 99).1 HC.out
    obtain ⟨m, hm⟩ : ∃ m, mxTo zs (len - 1) = m := ⟨_, rfl⟩
    have HM := Lib.hid hm
    have HX : Hid (v = decide (0 < m)) := by
      have := max_sum (c := zs) (fun i hi => (toB_at c1 hi).1) (by omega)
      rw [HL.out, hm] at this
      rw [Hid, HV.out, this]; rfl
    rw [HL.out] at c2
    clear hm c1 c3
    go_wp2_with fail
    refine (slMax_as _ _ _ zs _ HI.out (by omega) m HM.out).mono ?_
    rintro e w2 ⟨rfl, rfl⟩
    go_wp2
    go_ret
    exact ⟨ret_bool HX.out.symm, rfl⟩

set_option maxHeartbeats 1000000 in
/-- **givenValid**, for one to five parties. -/
theorem given_as (a : Option Addr) (len cap : Nat) (zs : List Int) (n : Nat) (v : Bool) (w : World) (h : IsInts w a len cap zs) (hn : 1 ≤ n ∧ n ≤ 5) (hv : giveB zs n = v) :
    Calls Try.prog 66 #[.slice a len cap, .int .i64 (n : Int)] w fun e w' => e = .returned (.bool v) ∧ w = w' := by
  have HI := Lib.hid h
  have HL := Lib.hid h.1
  have hlm := h.2.2.1
  have HV := Lib.hid hv
  by_cases hl : len = n
  · subst hl
    have he : ((len : Int) == (len : Int)) = true := by simp
    obtain ⟨v1, h1⟩ : ∃ v1, choB zs 20 = v1 := ⟨_, rfl⟩
    have HC := Lib.hid h1
    have HV2 : Hid (v = (v1 && decide (totI zs ≤ 20))) := by
      unfold Hid; rw [← hv, ← h1]; unfold giveB choB
      have e5 : inB (zs.length : Int) 1 5 = true := by rw [HL.out]; simp [inB]; omega
      rw [decide_eq_true HL.out, e5, Bool.true_and, Bool.and_true]
    clear h hv h1
    go_enter Try.func66, Try.ntmps66
    go_wp2_with fail
    refine (choices_as _ _ _ zs 20 v1 _ HI.out HC.out).mono ?_
    rintro e w1 ⟨rfl, rfl⟩
    cases v1
    · go_wp2
      go_ret
      exact ⟨ret_bool HV2.out.symm, rfl⟩
    · obtain ⟨c1, c2, c3⟩ := (choB_iff zs 20).1 HC.out
      rw [HL.out] at c1
      have HB : Hid (∀ x : Nat, x < len → 0 ≤ zs[x]?.getD 0 ∧ zs[x]?.getD 0 ≤ 100000) := fun x hx => by have := toB_at c1 hx; omega
      obtain ⟨t, ht⟩ : ∃ t, totI zs = t := ⟨_, rfl⟩
      rw [ht] at HV2
      have HT := Lib.hid ht
      clear c1 c2 c3 ht
      go_wp2_with fail
      refine (implSum_as _ _ _ zs t _ HI.out (by omega) HB.out HT.out).mono ?_
      rintro e w2 ⟨rfl, rfl⟩
      go_wp2
      go_ret
      exact ⟨ret_bool HV2.out.symm, rfl⟩
  · have he : ((len : Int) == (n : Int)) = false := by simp; omega
    have HF : Hid (v = false) := by
      rw [Hid, ← hv]; unfold giveB
      rw [HL.out, decide_eq_false hl]; simp
    clear h hv hl
    go_enter Try.func66, Try.ntmps66
    go_wp2
    go_ret
    exact ⟨ret_bool HF.out.symm, rfl⟩

set_option maxHeartbeats 1000000 in
/-- **lotsOfParties**. -/
theorem lotsOf_as (a : Option Addr) (len cap : Nat) (zs : List Int) (n : Nat) (v : Bool) (w : World) (h : IsInts w a len cap zs) (hv : (lotsB zs && decide (len = n)) = v) :
    Calls Try.prog 49 #[.slice a len cap, .int .i64 (n : Int)] w fun e w' => e = .returned (.bool v) ∧ Below w.heap.size w w' := by
  have HI := Lib.hid h
  obtain ⟨v1, h1⟩ : ∃ v1, lotsB zs = v1 := ⟨_, rfl⟩
  have HC := Lib.hid h1
  rw [h1] at hv
  have HV := Lib.hid hv
  clear h hv h1
  go_enter Try.func49, Try.ntmps49
  go_wp2_with fail
  refine (implLots_as _ _ _ zs v1 _ HI.out HC.out).mono ?_
  rintro e w1 ⟨rfl, hd⟩
  cases v1
  · go_wp2
    go_ret
    exact ⟨ret_bool HV.out, hd⟩
  · by_cases hl : len = n
    · have he : ((len : Int) == (n : Int)) = true := by simp; omega
      have HT : Hid (v = true) := by rw [Hid, ← HV.out, decide_eq_true hl]; rfl
      clear hl
      go_wp2
      go_ret
      exact ⟨ret_bool HT.out.symm, hd⟩
    · have he : ((len : Int) == (n : Int)) = false := by simp; omega
      have HT : Hid (v = false) := by rw [Hid, ← HV.out, decide_eq_false hl]; rfl
      clear hl
      go_wp2
      go_ret
      exact ⟨ret_bool HT.out.symm, hd⟩

end Go.Proofs.Ytbcemgmfkddafaa
