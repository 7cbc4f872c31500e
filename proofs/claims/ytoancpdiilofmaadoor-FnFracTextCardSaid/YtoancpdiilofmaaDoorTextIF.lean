/-
  impl.FracText: the text of a fraction; it writes into no memory that was there. Its condition: the library's table of powers of ten holds what the library's text lays.
-/
import Derived.Test.YtoancpdiilofmaaDoorTextSF
import Derived.Test.YtoancpdiilofmaaDoorFracC
import Derived.Test.YtoancpdiilofmaaDoorTabI
namespace Go.Proofs.YtoancpdiilofmaaDoor
open Go.RowKit

set_option maxRecDepth 100000 in
set_option maxHeartbeats 4000000 in
/-- **(Frac).text**, of a valid fraction. -/
theorem methText_as (x y : Int) (t : ByteArray) (w : World) (hv : fracB (x, y) = true) (hT : Tab w) (ht : textV (x, y) = t) :
    Calls Tryd.prog 13 #[.agg #[.int .i64 x, .int .i64 y]] w fun e w' => e = .returned (.string t) ∧ Below w.heap.size w w' := by
  obtain ⟨hx, hy, -⟩ := (fracB_iff _).1 hv
  have hx' : -9999999 ≤ x ∧ x ≤ 9999999 := hx
  have hy' : 1 ≤ y ∧ y ≤ 9999999 := hy
  have HT : Hid ((if 1 < y then minusB x ++ ⟨#[47]⟩ ++ decB y.toNat else minusB x) = t) := ht
  have T0 := Two.new w x y 24
  obtain ⟨la, a0, a9, -, -⟩ := T0
  have hB0 : Below w.heap.size w (w.alloc (.cells #[.int .i64 x, .int .i64 y] 24)) := (Below.refl _ w).alloc (Nat.le_refl _) _
  have B0 := Lib.hid hB0
  have TT := Lib.hid (hT.below hB0)
  have ex := minus_len hx'
  have ey := minus_len (n := y) ⟨by omega, by omega⟩
  have hyd : minusB y = decB y.toNat := by
    rw [minus_no (by omega)]
    have e : y.natAbs = y.toNat := by omega
    rw [e]
  obtain ⟨s, hs⟩ : ∃ s, minusB x = s := ⟨_, rfl⟩
  obtain ⟨d, hd⟩ : ∃ d, minusB y = d := ⟨_, rfl⟩
  rw [hs] at ex
  rw [hd] at ey
  have HD : Hid (decB y.toNat = d) := by unfold Hid; rw [← hyd, hd]
  have e47 : (⟨#[47]⟩ : ByteArray).size = 1 := rfl
  have HS := Lib.hid hs
  have HE := Lib.hid hd
  clear hv ht hx hy hB0 hT hyd hs hd
  by_cases hy1 : y = 1
  · subst hy1
    have hyt : ((1 : Int) == 1) = true := rfl
    have HQ : Hid (s = t) := by have h := HT.out; rw [if_neg (by omega), HS.out] at h; exact h
    go_enter Tryd.func13, Tryd.ntmps13
    go_wp2_with fail
    refine (itoa_as x s _ hx' TT.out HS.out).mono ?_
    rintro e w1 ⟨rfl, hb⟩
    have B1 := Lib.hid (below_on B0.out hb)
    clear hb
    go_wp2
    go_ret
    exact ⟨ret_str HQ.out, B1.out⟩
  · have hyt : (y == 1) = false := by simpa using hy1
    have HQ : Hid (s ++ ⟨#[47]⟩ ++ d = t) := by have h := HT.out; rw [if_pos (by omega), HS.out, HD.out] at h; exact h
    have hz2 : ¬ 9223372036854775807 < s.size + (⟨#[47]⟩ : ByteArray).size := by omega
    have hz3 : ¬ 9223372036854775807 < (s ++ ⟨#[47]⟩).size + d.size := by rw [ByteArray.size_append]; omega
    generalize hW0 : w.alloc (.cells #[.int .i64 x, .int .i64 y] 24) = W0 at *
    have hTU : Hid (∀ u : Beh W0, Tab u.w) := fun u => TT.out.below u.below
    have u0 : ∀ u : Beh W0, u.w.cell? ⟨w.heap.size, 0, none⟩ = some (.int .i64 x) := Beh.cell a0 la
    have u9 : ∀ u : Beh W0, u.w.cell? ⟨w.heap.size, 1, none⟩ = some (.int .i64 y) := Beh.cell a9 la
    go_enter Tryd.func13, Tryd.ntmps13
    go_wp2_with fail
    refine wp_region_below (by kernel_rfl) (by kernel_rfl) ?_
    repeat (go_big_quiet_step ((go_at_call 21; (first | exact Calls.beh (itoa_as x s _ hx' (hTU.out _) HS.out) | exact Calls.beh (itoa_as y d _ ⟨by omega, by omega⟩ (hTU.out _) HE.out)))))
    refine wpQuiet_nil ?_
    intro wa hwa
    have hb : Below W0.heap.size W0 wa := by obtain ⟨⟨w9, hb⟩, rfl⟩ := hwa; exact hb
    clear hwa
    go_wp2
    go_ret
    exact ⟨ret_str HQ.out, below_on B0.out hb⟩

set_option maxRecDepth 100000 in
set_option maxHeartbeats 4000000 in
/-- **impl.FracText**. -/
theorem implText_as (x y : Int) (t : ByteArray) (w : World) (hT : Tab w) (ht : textF (x, y) = t) :
    Calls Tryd.prog 6 #[.agg #[.int .i64 x, .int .i64 y]] w fun e w' => e = .returned (.string t) ∧ Below w.heap.size w w' := by
  have T0 := Lib.hid (Two.new w x y 24)
  have hB0 : Below w.heap.size w (w.alloc (.cells #[.int .i64 x, .int .i64 y] 24)) := (Below.refl _ w).alloc (Nat.le_refl _) _
  have B0 := Lib.hid hB0
  have TT := Lib.hid (hT.below hB0)
  clear hB0 hT
  obtain ⟨la, a0, a9, -, -⟩ := T0.out
  cases hv : fracB (x, y)
  · rw [textF_no hv] at ht
    have HT := Lib.hid ht
    have HV := Lib.hid hv
    clear ht hv
    go_enter Tryd.func6, Tryd.ntmps6
    go_wp2_with fail
    refine (valid_as x y false _ HV.out).mono ?_
    rintro e w1 ⟨rfl, hb⟩
    have B1 := Lib.hid (below_on B0.out hb)
    clear hb
    go_wp2
    go_ret
    exact ⟨ret_str HT.out, B1.out⟩
  · rw [textF_yes hv] at ht
    have HT := Lib.hid ht
    have HV := Lib.hid hv
    clear ht hv
    go_enter Tryd.func6, Tryd.ntmps6
    go_wp2_with fail
    refine (valid_as x y true _ HV.out).mono ?_
    rintro e w1 ⟨rfl, hb⟩
    have B1 := Lib.hid (below_on B0.out hb)
    have T1 := Lib.hid (T0.out.below hb)
    have T9 := Lib.hid (TT.out.below hb)
    clear hb la a0 a9
    obtain ⟨la, a0, a9, -, -⟩ := T1.out
    go_wp2_with fail
    refine (methText_as x y t _ HV.out T9.out HT.out).mono ?_
    rintro e w2 ⟨rfl, hb⟩
    have B2 := Lib.hid (below_on B1.out hb)
    clear hb
    go_wp2
    go_ret
    exact ⟨rfl, B2.out⟩

end Go.Proofs.YtoancpdiilofmaaDoor
