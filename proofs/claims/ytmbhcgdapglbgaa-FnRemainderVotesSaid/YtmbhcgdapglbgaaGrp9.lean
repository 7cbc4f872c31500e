/-
  slices.Max at ints: the greatest of some numbers; it is above 0 if and only if their sum is, where none is below 0.
  impl's votes, seats and lots: contracts. They write into no memory that was there.
-/
import Derived.Test.YtmbhcgdapglbgaaGrp4
import Derived.Test.YtmbhcgdapglbgaaGrp5
namespace Go.Proofs.Ytmbhcgdapglbgaa
open Go.RowKit

attribute [local go_sem] Oper.semAt_some

/-- The greatest of the first k + 1 numbers. -/
def mxTo (c : List Int) : Nat → Int
  | 0 => c[0]?.getD 0
  | k + 1 => max (mxTo c k) (c[k + 1]?.getD 0)
theorem mxTo_succ (c : List Int) (k : Nat) : mxTo c (k + 1) = max (mxTo c k) (c[k + 1]?.getD 0) := rfl
theorem mxTo_ge {c : List Int} : ∀ {k i : Nat}, i ≤ k → c[i]?.getD 0 ≤ mxTo c k
  | 0, i, h => by rw [Nat.le_zero.1 h]; exact Int.le_refl _
  | k + 1, i, h => by
    rw [mxTo_succ]
    by_cases e : i = k + 1
    · subst e; exact Int.le_max_right _ _
    · exact Int.le_trans (mxTo_ge (by omega : i ≤ k)) (Int.le_max_left _ _)
theorem mxTo_hit (c : List Int) : ∀ k, ∃ i, i ≤ k ∧ c[i]?.getD 0 = mxTo c k
  | 0 => ⟨0, Nat.le_refl _, rfl⟩
  | k + 1 => by
    obtain ⟨i, hi, he⟩ := mxTo_hit c k
    rw [mxTo_succ]
    by_cases g : c[k + 1]?.getD 0 ≤ mxTo c k
    · exact ⟨i, by omega, by omega⟩
    · exact ⟨k + 1, Nat.le_refl _, by omega⟩
theorem max_sum {c : List Int} (h0 : ∀ i, i < c.length → 0 ≤ c[i]?.getD 0) (hp : 0 < c.length) : decide (0 < mxTo c (c.length - 1)) = decide (0 < totI c) := by
  obtain ⟨i, hi, he⟩ := mxTo_hit c (c.length - 1)
  obtain ⟨t0, ht⟩ := le_totI h0
  have h1 := ht i (by omega)
  rw [he] at h1
  by_cases g : 0 < mxTo c (c.length - 1)
  · rw [decide_eq_true g, decide_eq_true (by omega)]
  · rw [decide_eq_false g]
    have hz : totI c ≤ totI (List.replicate c.length 0) := totI_le (by simp) (fun j hj => by
      have := mxTo_ge (c := c) (k := c.length - 1) (i := j) (by omega)
      rw [List.getElem?_replicate, if_pos hj]
      show c[j]?.getD 0 ≤ 0
      omega)
    rw [totI_repl] at hz
    rw [decide_eq_false (by omega)]

set_option maxRecDepth 100000 in
set_option maxHeartbeats 2000000 in
/-- **slices.Max**. -/
theorem slMax_as (a : Option Addr) (len cap : Nat) (zs : List Int) (w : World) (h : IsInts w a len cap zs) (hp : 0 < len) (m : Int) (hm : mxTo zs (len - 1) = m) :
    Calls Try.prog 54 #[.slice a len cap] w fun e w' => e = .returned (.int .i64 m) ∧ w = w' := by
  obtain ⟨h1, h2, h3, h4⟩ := h
  obtain ⟨b, off, rfl, hb, hc⟩ := h4 hp
  have HC := Lib.hid hc
  have HM := Lib.hid hm
  have c0 := hc 0 hp
  rw [Nat.add_zero] at c0
  obtain ⟨z0, hz0⟩ : ∃ z0, zs[0]?.getD 0 = z0 := ⟨_, rfl⟩
  rw [hz0] at c0
  have HZ0 : Hid (mxTo zs 0 = z0) := hz0
  have hlt1 : decide ((len : Int) < 1) = false := decide_eq_false (by omega)
  have hlt2 : decide (len = 0) = false := decide_eq_false (by omega)
  have hlt3 : ¬ len = 0 := by omega
  have hpi : (0 : Int) < (len : Int) := by omega
  clear hc h4 hm hz0 h1
  go_enter Try.func54, Try.ntmps54
  go_wp2
  go_loop [3, 4] (fun mv iv => ∃ (i : Nat) (x : Int), 1 ≤ i ∧ i ≤ len ∧ iv = .int .i64 (i : Int) ∧ mv = .int .i64 x ∧ Hid (mxTo zs (i - 1) = x)) (fun _ iv => len - (intOf iv).toNat)
  case atStart => exact ⟨1, z0, Nat.le_refl _, hp, rfl, rfl, HZ0⟩
  case round =>
    clear HZ0 c0
    obtain ⟨i, x, hi1, hil, rfl, rfl, hx⟩ := hrel
    by_cases hlt : i < len
    · have ci := HC.out i hlt
      obtain ⟨z, hz⟩ : ∃ z, zs[i]?.getD 0 = z := ⟨_, rfl⟩
      rw [hz] at ci
      have HX : Hid (mxTo zs i = max x z) := by
        obtain ⟨k, rfl⟩ : ∃ k, i = k + 1 := ⟨i - 1, by omega⟩
        have := hx.out
        rw [Nat.add_sub_cancel] at this
        rw [Hid, mxTo_succ, this, hz]
      clear hz
      by_cases hxz : x < z
      · have HX2 : Hid (mxTo zs (i + 1 - 1) = z) := by rw [Nat.add_sub_cancel, Hid, HX.out]; omega
        go_wp2
        go_round
        case rel => exact ⟨i + 1, z, by omega, by omega, by go_num, by first | rfl | (congr 1; omega), HX2⟩
        case measure => simp [intOf]; omega
      · have HX2 : Hid (mxTo zs (i + 1 - 1) = x) := by rw [Nat.add_sub_cancel, Hid, HX.out]; omega
        go_wp2
        go_round
        case rel => exact ⟨i + 1, x, by omega, by omega, by go_num, by first | rfl | (congr 1; omega), HX2⟩
        case measure => simp [intOf]; omega
    · obtain rfl : i = len := by omega
      go_wp2
      go_ret
      exact ⟨ret_int (by rw [← HM.out, hx.out]), rfl⟩

end Go.Proofs.Ytmbhcgdapglbgaa

namespace Go.Proofs.Ytmbhcgdapglbgaa
open Go.RowKit

attribute [local go_sem] Oper.semAt_some

set_option maxHeartbeats 1000000 in
/-- **seatsInRange**. -/
theorem inRange_as (s : Int) (v : Bool) (w : World) (hv : inB s 0 20 = v) :
    Calls Try.prog 33 #[.int .i64 s] w fun e w' => e = .returned (.bool v) ∧ w = w' := by
  by_cases h0 : s < 0
  · have e : v = false := by rw [← hv]; simp [inB]; omega
    subst e
    clear hv
    go_enter Try.func33, Try.ntmps33
    go_wp2
    go_ret
    exact ⟨rfl, rfl⟩
  · by_cases h1 : 20 < s
    · have e : v = false := by rw [← hv]; simp [inB]; omega
      subst e
      clear hv
      go_enter Try.func33, Try.ntmps33
      go_wp2
      go_ret
      exact ⟨by first | rfl | exact ret_bool (decide_eq_false (by omega)), rfl⟩
    · have e : v = true := by rw [← hv]; simp [inB]; omega
      subst e
      clear hv
      go_enter Try.func33, Try.ntmps33
      go_wp2
      go_ret
      exact ⟨by first | rfl | exact ret_bool (decide_eq_true (by omega)), rfl⟩

set_option maxHeartbeats 1000000 in
/-- **votesValid**. -/
theorem votes_as (a : Option Addr) (len cap : Nat) (zs : List Int) (v : Bool) (w : World) (h : IsInts w a len cap zs) (hv : voteB zs = v) :
    Calls Try.prog 34 #[.slice a len cap] w fun e w' => e = .returned (.bool v) ∧ w = w' := by
  have HI := Lib.hid h
  obtain ⟨v1, h1⟩ : ∃ v1, choB zs 99 = v1 := ⟨_, rfl⟩
  have HC := Lib.hid h1
  have HL := Lib.hid h.1
  have HV : Hid (v = (v1 && decide (0 < totI zs))) := by unfold Hid; rw [← hv, ← h1]; rfl
  clear h hv h1
  go_enter Try.func34, Try.ntmps34
  go_wp2_with fail
  refine (choices_as _ _ _ zs 99 v1 _ HI.out HC.out).mono ?_
  rintro e w1 ⟨rfl, rfl⟩
  cases v1
  · go_wp2
    go_ret
    exact ⟨ret_bool HV.out.symm, rfl⟩
  · obtain ⟨c1, c2, c3⟩ := (choB_iff zs 99).1 HC.out
    obtain ⟨m, hm⟩ : ∃ m, mxTo zs (len - 1) = m := ⟨_, rfl⟩
    have HM := Lib.hid hm
    have HX : Hid (v = decide (0 < m)) := by
      have := max_sum (c := zs) (fun i hi => (toB_at c1 hi).1) (by omega)
      rw [HL.out, hm] at this
      rw [Hid, HV.out, this]; rfl
    rw [HL.out] at c2
    clear hm c1 c3
    go_wp2_with fail
    refine (slMax_as _ _ _ zs _ HI.out (by omega) m HM.out).mono ?_
    rintro e w2 ⟨rfl, rfl⟩
    go_wp2
    go_ret
    exact ⟨ret_bool HX.out.symm, rfl⟩

set_option maxHeartbeats 1000000 in
/-- **givenValid**, for one to five parties. -/
theorem given_as (a : Option Addr) (len cap : Nat) (zs : List Int) (n : Nat) (v : Bool) (w : World) (h : IsInts w a len cap zs) (hn : 1 ≤ n ∧ n ≤ 5) (hv : giveB zs n = v) :
    Calls Try.prog 47 #[.slice a len cap, .int .i64 (n : Int)] w fun e w' => e = .returned (.bool v) ∧ w = w' := by
  have HI := Lib.hid h
  have HL := Lib.hid h.1
  have hlm := h.2.2.1
  have HV := Lib.hid hv
  by_cases hl : len = n
  · subst hl
    have he : ((len : Int) == (len : Int)) = true := by simp
    obtain ⟨v1, h1⟩ : ∃ v1, choB zs 20 = v1 := ⟨_, rfl⟩
    have HC := Lib.hid h1
    have HV2 : Hid (v = (v1 && decide (totI zs ≤ 20))) := by
      unfold Hid; rw [← hv, ← h1]; unfold giveB choB
      have e5 : inB (zs.length : Int) 1 5 = true := by rw [HL.out]; simp [inB]; omega
      rw [decide_eq_true HL.out, e5, Bool.true_and, Bool.and_true]
    clear h hv h1
    go_enter Try.func47, Try.ntmps47
    go_wp2_with fail
    refine (choices_as _ _ _ zs 20 v1 _ HI.out HC.out).mono ?_
    rintro e w1 ⟨rfl, rfl⟩
    cases v1
    · go_wp2
      go_ret
      exact ⟨ret_bool HV2.out.symm, rfl⟩
    · obtain ⟨c1, c2, c3⟩ := (choB_iff zs 20).1 HC.out
      rw [HL.out] at c1
      have HB : Hid (∀ x : Nat, x < len → 0 ≤ zs[x]?.getD 0 ∧ zs[x]?.getD 0 ≤ 100000) := fun x hx => by have := toB_at c1 hx; omega
      obtain ⟨t, ht⟩ : ∃ t, totI zs = t := ⟨_, rfl⟩
      rw [ht] at HV2
      have HT := Lib.hid ht
      clear c1 c2 c3 ht
      go_wp2_with fail
      refine (implSum_as _ _ _ zs t _ HI.out (by omega) HB.out HT.out).mono ?_
      rintro e w2 ⟨rfl, rfl⟩
      go_wp2
      go_ret
      exact ⟨ret_bool HV2.out.symm, rfl⟩
  · have he : ((len : Int) == (n : Int)) = false := by simp; omega
    have HF : Hid (v = false) := by
      rw [Hid, ← hv]; unfold giveB
      rw [HL.out, decide_eq_false hl]; simp
    clear h hv hl
    go_enter Try.func47, Try.ntmps47
    go_wp2
    go_ret
    exact ⟨ret_bool HF.out.symm, rfl⟩

set_option maxHeartbeats 1000000 in
/-- **lotsOfParties**. -/
theorem lotsOf_as (a : Option Addr) (len cap : Nat) (zs : List Int) (n : Nat) (v : Bool) (w : World) (h : IsInts w a len cap zs) (hv : (lotsB zs && decide (len = n)) = v) :
    Calls Try.prog 35 #[.slice a len cap, .int .i64 (n : Int)] w fun e w' => e = .returned (.bool v) ∧ Below w.heap.size w w' := by
  have HI := Lib.hid h
  obtain ⟨v1, h1⟩ : ∃ v1, lotsB zs = v1 := ⟨_, rfl⟩
  have HC := Lib.hid h1
  rw [h1] at hv
  have HV := Lib.hid hv
  clear h hv h1
  go_enter Try.func35, Try.ntmps35
  go_wp2_with fail
  refine (implLots_as _ _ _ zs v1 _ HI.out HC.out).mono ?_
  rintro e w1 ⟨rfl, hd⟩
  cases v1
  · go_wp2
    go_ret
    exact ⟨ret_bool HV.out, hd⟩
  · by_cases hl : len = n
    · have he : ((len : Int) == (n : Int)) = true := by simp; omega
      have HT : Hid (v = true) := by rw [Hid, ← HV.out, decide_eq_true hl]; rfl
      clear hl
      go_wp2
      go_ret
      exact ⟨ret_bool HT.out.symm, hd⟩
    · have he : ((len : Int) == (n : Int)) = false := by simp; omega
      have HT : Hid (v = false) := by rw [Hid, ← HV.out, decide_eq_false hl]; rfl
      clear hl
      go_wp2
      go_ret
      exact ⟨ret_bool HT.out.symm, hd⟩

end Go.Proofs.Ytmbhcgdapglbgaa
