/-
  slices.ContainsFunc at fractions and the bound method less; impl.SeatsCheck: contracts. They write into no memory that was there.
-/
import Derived.Test.YtgcocdacofpglaaGrp10
import Derived.Test.YtgcocdacofpglaaSeatV
namespace Go.Proofs.Ytgcocdacofpglaa
open Go.RowKit

attribute [local go_sem] Oper.semAt_some

/-- One of the first k fractions is greater. -/
def anyTo (cs : List Fr) (o : Fr) (k : Nat) : Bool := (List.range k).any fun i => lessF o (fAt cs i)
theorem anyTo_succ (cs : List Fr) (o : Fr) (k : Nat) : anyTo cs o (k + 1) = (anyTo cs o k || lessF o (fAt cs k)) := by simp [anyTo, List.range_succ]
theorem anyTo_yes {cs : List Fr} {o : Fr} {k n : Nat} (h : lessF o (fAt cs k) = true) (hk : k < n) : anyTo cs o n = true := by
  unfold anyTo
  exact List.any_eq_true.2 ⟨k, List.mem_range.2 hk, h⟩

set_option maxRecDepth 100000 in
set_option maxHeartbeats 2000000 in
/-- **slices.IndexFunc**, with the bound method less of a fraction. -/
theorem indexF_as (a : Option Addr) (n cap : Nat) (cs : List Fr) (x y : Int) (w : World) (h : IsFr w a n cap cs) (hv : ∀ j, j < n → fracB (fAt cs j) = true) (ho : fracB (x, y) = true) :
    Calls Try.prog 46 #[.slice a n cap, .func (.func 37) #[.agg #[.int .i64 x, .int .i64 y]] #[]] w fun e w' => ∃ j : Int, e = .returned (.int .i64 j) ∧ decide (0 ≤ j) = anyTo cs (x, y) n ∧ Below w.heap.size w w' := by
  have HI := Lib.hid h
  have HV := Lib.hid hv
  have HO := Lib.hid ho
  have hnm := h.2.2.1
  clear h hv ho
  go_enter Try.func46, Try.ntmps46
  go_wp2
  go_loopw [5, 8] (fun _ iv wr => ∃ k : Nat, k ≤ n ∧ iv = .int .i64 (k : Int) ∧ Hid (anyTo cs (x, y) k = false) ∧ Below w.heap.size w wr) (fun _ iv _ => n - (intOf iv).toNat)
  case atStart => exact ⟨0, Nat.zero_le _, rfl, rfl, Below.refl _ _⟩
  case round =>
    obtain ⟨k, hk, rfl, hc, hB⟩ := hrel
    by_cases hlt : k < n
    · obtain ⟨fb, fo, rfl, hfb, c0, c1⟩ := (HI.out.below hB).at hlt
      obtain ⟨u, v, huv⟩ : ∃ u v, fAt cs k = (u, v) := ⟨_, _, rfl⟩
      rw [huv] at c0 c1
      have hfv := HV.out k hlt
      rw [huv] at hfv
      have HFV := Lib.hid hfv
      obtain ⟨b, hb⟩ : ∃ b, lessF (x, y) (u, v) = b := ⟨_, rfl⟩
      have HS := anyTo_succ cs (x, y) k
      rw [hc.out, Bool.false_or, huv, hb] at HS
      have HS := Lib.hid HS
      have HB := Lib.hid hb
      have HUV := Lib.hid huv
      have hki : (k : Int) < (n : Int) := by omega
      clear hb huv hfv
      go_wp2_with fail
      refine (less_as x y u v b _ HO.out HFV.out HB.out).mono ?_
      rintro e w1 ⟨rfl, hb1⟩
      have B1 := Lib.hid (below_on hB hb1)
      clear hb1
      cases b
      · go_wp2
        go_roundw
        case rel => exact ⟨k + 1, by omega, by go_num, HS.out, B1.out⟩
        case measure => simp [intOf]; omega
      · have HX : Hid (anyTo cs (x, y) n = true) := anyTo_yes (by rw [HUV.out]; exact HB.out) hlt
        go_wp2
        go_ret
        exact ⟨(k : Int), rfl, by rw [HX.out]; exact decide_eq_true (by omega), B1.out⟩
    · obtain rfl : k = n := by omega
      go_wp2
      go_ret
      exact ⟨-1, rfl, by rw [hc.out]; decide, hB⟩

set_option maxHeartbeats 2000000 in
/-- **slices.ContainsFunc**, with the bound method less of a fraction. -/
theorem containsF_as (a : Option Addr) (n cap : Nat) (cs : List Fr) (x y : Int) (v : Bool) (w : World) (h : IsFr w a n cap cs) (hv : ∀ j, j < n → fracB (fAt cs j) = true) (ho : fracB (x, y) = true) (hr : anyTo cs (x, y) n = v) :
    Calls Try.prog 35 #[.slice a n cap, .func (.func 37) #[.agg #[.int .i64 x, .int .i64 y]] #[]] w fun e w' => e = .returned (.bool v) ∧ Below w.heap.size w w' := by
  have HI := Lib.hid h
  have HV := Lib.hid hv
  have HO := Lib.hid ho
  have HR := Lib.hid hr
  clear h hv ho hr
  go_enter Try.func35, Try.ntmps35
  go_wp2_with fail
  refine (indexF_as _ _ _ cs x y _ HI.out HV.out HO.out).mono ?_
  rintro e w1 ⟨j, rfl, hj, hb⟩
  have HJ : Hid (decide (0 ≤ j) = v) := by rw [Hid, hj]; exact HR.out
  clear hj
  go_wp2
  go_ret
  exact ⟨ret_bool HJ.out, hb⟩

end Go.Proofs.Ytgcocdacofpglaa
