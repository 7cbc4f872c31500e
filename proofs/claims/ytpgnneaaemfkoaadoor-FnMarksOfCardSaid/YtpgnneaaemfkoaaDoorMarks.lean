/-
  Marks that are those of a form: l2Marks and impl.marksValid answer alike for every list of at most 1048600 ints, and write nothing.
-/
import Derived.Test.YtpgnneaaemfkoaaDoorBase
namespace Go.Proofs.YtpgnneaaemfkoaaDoor
open Go.RowKit

/-- The first k marks are in range. -/
def rankTo (zs : List Int) (k : Nat) : Bool := (List.range k).all fun i => inB (zs[i]?.getD 0) 0 9
theorem rankTo_succ (zs : List Int) (k : Nat) : rankTo zs (k + 1) = (rankTo zs k && inB (zs[k]?.getD 0) 0 9) := by
  simp [rankTo, List.range_succ]
theorem rankTo_no {zs : List Int} {k n : Nat} (h : rankTo zs (k + 1) = false) (hk : k < n) : rankTo zs n = false := by
  simp only [rankTo, List.all_eq_false, List.mem_range] at h ⊢
  obtain ⟨i, h1, h2⟩ := h
  exact ⟨i, by omega, h2⟩
/-- Marks are those of a form. -/
def rankB (zs : List Int) : Bool := rankTo zs zs.length && inB (zs.length : Int) 1 5
theorem rankB_len {zs : List Int} (h : rankB zs = true) : 1 ≤ zs.length ∧ zs.length ≤ 5 := by
  simp only [rankB, inB, Bool.and_eq_true, decide_eq_true_eq] at h
  omega
theorem rankB_at {zs : List Int} (h : rankB zs = true) (i : Nat) (hi : i < zs.length) : 0 ≤ zs[i]?.getD 0 ∧ zs[i]?.getD 0 ≤ 9 := by
  simp only [rankB, rankTo, inB, Bool.and_eq_true, decide_eq_true_eq, List.all_eq_true, List.mem_range] at h
  exact h.1 i hi

set_option maxHeartbeats 1000000 in
/-- **l2Marks**. -/
theorem specMarks_any (a : Option Addr) (len cap : Nat) (zs : List Int) (w : World) (h : IsInts w a len cap zs) :
    Calls Tryd.prog 31 #[.slice a len cap] w fun e w' => e = .returned (.bool (rankB zs)) ∧ w = w' := by
  obtain ⟨h1, h2, h3, h4⟩ := h
  have HV : Hid (rankB zs = (rankTo zs len && inB (len : Int) 1 5)) := by unfold Hid rankB; rw [h1]
  have H4 := Lib.hid h4; clear h4 h1
  go_enter Tryd.func31, Tryd.ntmps31
  go_wp2
  go_loop [3] (fun i => ∃ k : Nat, k ≤ len ∧ i = .int .i64 k ∧ Hid (rankTo zs k = true)) (fun i => len - (intOf i).toNat)
  case atStart => exact ⟨0, Nat.zero_le _, rfl, by simp [Hid, rankTo]⟩
  case round =>
    obtain ⟨k, hk, rfl, hc⟩ := hrel
    by_cases hlt : k < len
    · obtain ⟨b, off, rfl, hb, hcell⟩ := H4.out (by omega)
      have hck := hcell k hlt
      have HS := rankTo_succ zs k
      rw [hc.out, Bool.true_and] at HS
      have HS := Lib.hid HS
      clear hcell
      cases hin : inB (zs[k]?.getD 0) 0 9
      · have HI := Lib.hid hin
        go_wp2_with fail
        refine (l6In_any _ _ _ _).mono ?_
        rintro e w' ⟨he, rfl⟩
        rw [HI.out] at he
        subst he
        go_wp2
        go_ret
        refine ⟨ret_bool ?_, rfl⟩
        rw [HV.out, rankTo_no (by rw [HS.out, HI.out]) hlt]; rfl
      · have HI := Lib.hid hin
        go_wp2_with fail
        refine (l6In_any _ _ _ _).mono ?_
        rintro e w' ⟨he, rfl⟩
        rw [HI.out] at he
        subst he
        go_wp2
        go_round
        case rel => exact ⟨k + 1, by omega, by go_num, by unfold Hid; rw [HS.out, HI.out]⟩
        case measure => simp [intOf]; omega
    · obtain rfl : k = len := by omega
      go_wp2_with fail
      refine (l6In_any _ _ _ _).mono ?_
      rintro e w' ⟨rfl, rfl⟩
      go_wp2
      go_ret
      refine ⟨ret_bool ?_, rfl⟩
      rw [HV.out, hc.out, Bool.true_and]

set_option maxHeartbeats 1000000 in
/-- **impl.choicesUpTo**, up to nine. -/
theorem choicesNine_any (a : Option Addr) (len cap : Nat) (zs : List Int) (w : World) (h : IsInts w a len cap zs) :
    Calls Tryd.prog 37 #[.slice a len cap, .int .i64 9] w fun e w' => e = .returned (.bool (rankB zs)) ∧ w = w' := by
  obtain ⟨h1, h2, h3, h4⟩ := h
  have HV : Hid (rankB zs = (rankTo zs len && inB (len : Int) 1 5)) := by unfold Hid rankB; rw [h1]
  have H4 := Lib.hid h4; clear h4 h1
  by_cases hl1 : len < 1
  · have e : rankB zs = false := by rw [HV.out]; simp [inB]; omega
    rw [e]; clear e
    go_enter Tryd.func37, Tryd.ntmps37
    go_wp2
    go_ret
    exact ⟨rfl, rfl⟩
  by_cases hl5 : 5 < len
  · have e : rankB zs = false := by rw [HV.out]; simp [inB]; omega
    rw [e]; clear e
    go_enter Tryd.func37, Tryd.ntmps37
    go_wp2
    go_ret
    exact ⟨rfl, rfl⟩
  have e : inB (len : Int) 1 5 = true := by simp [inB]; omega
  have HV : Hid (rankB zs = rankTo zs len) := by unfold Hid; rw [HV.out, e, Bool.and_true]
  clear e
  go_enter Tryd.func37, Tryd.ntmps37
  go_wp2
  go_loop [6, 17] (fun _ i => ∃ k : Nat, k ≤ len ∧ i = .int .i64 k ∧ Hid (rankTo zs k = true)) (fun _ i => len - (intOf i).toNat)
  case atStart => exact ⟨0, Nat.zero_le _, rfl, by simp [Hid, rankTo]⟩
  case round =>
    obtain ⟨k, hk, rfl, hc⟩ := hrel
    by_cases hlt : k < len
    · obtain ⟨b, off, rfl, hb, hcell⟩ := H4.out (by omega)
      have hck := hcell k hlt
      have HS := rankTo_succ zs k
      rw [hc.out, Bool.true_and] at HS
      have HS := Lib.hid HS
      obtain ⟨z, hz⟩ : ∃ z, zs[k]?.getD 0 = z := ⟨_, rfl⟩
      rw [hz] at hck HS
      clear hcell hz
      by_cases hneg : z < 0
      · have hn : inB z 0 9 = false := by simp [inB]; omega
        have HI := Lib.hid hn; clear hn
        go_wp2
        go_ret
        refine ⟨ret_bool ?_, rfl⟩
        rw [HV.out, rankTo_no (by rw [HS.out, HI.out]) hlt]
      · by_cases hbig : 9 < z
        · have hn : inB z 0 9 = false := by simp [inB]; omega
          have HI := Lib.hid hn; clear hn
          go_wp2
          go_ret
          refine ⟨ret_bool ?_, rfl⟩
          rw [HV.out, rankTo_no (by rw [HS.out, HI.out]) hlt]
        · have hn : inB z 0 9 = true := by simp [inB]; omega
          have HI := Lib.hid hn; clear hn
          go_wp2
          go_round
          case rel => exact ⟨k + 1, by omega, by go_num, by unfold Hid; rw [HS.out, HI.out]⟩
          case measure => simp [intOf]; omega
    · obtain rfl : k = len := by omega
      go_wp2
      go_ret
      refine ⟨ret_bool ?_, rfl⟩
      rw [HV.out, hc.out]

set_option maxHeartbeats 1000000 in
/-- **impl.marksValid**. -/
theorem implMarks_any (a : Option Addr) (len cap : Nat) (zs : List Int) (w : World) (h : IsInts w a len cap zs) :
    Calls Tryd.prog 24 #[.slice a len cap] w fun e w' => e = .returned (.bool (rankB zs)) ∧ w = w' := by
  have H := Lib.hid h; clear h
  go_enter Tryd.func24, Tryd.ntmps24
  go_wp2_with fail
  refine (choicesNine_any a len cap zs _ H.out).mono ?_
  rintro e w1 ⟨rfl, rfl⟩
  go_wp2
  go_ret
  exact ⟨rfl, rfl⟩

end Go.Proofs.YtpgnneaaemfkoaaDoor
