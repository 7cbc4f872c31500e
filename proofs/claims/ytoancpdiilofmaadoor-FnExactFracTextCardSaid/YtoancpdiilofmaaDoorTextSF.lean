/-
  spec.FracText: the text of a fraction; it writes into no memory that was there.
-/
import Derived.Test.YtoancpdiilofmaaDoorDecS
import Derived.Test.YtoancpdiilofmaaDoorFracS
namespace Go.Proofs.YtoancpdiilofmaaDoor
open Go.RowKit

theorem minus_no {n : Int} (h : ¬ n < 0) : minusB n = decB n.natAbs := by rw [minusB, if_neg h]
theorem minus_yes {n : Int} (h : n < 0) : minusB n = ⟨#[45]⟩ ++ decB n.natAbs := by rw [minusB, if_pos h]
theorem minus_len {n : Int} (h : -9999999 ≤ n ∧ n ≤ 9999999) : (minusB n).size ≤ 8 := by
  have := decB_len (n := n.natAbs) (by omega)
  unfold minusB
  split
  · rw [ByteArray.size_append]
    have e : (⟨#[45]⟩ : ByteArray).size = 1 := rfl
    omega
  · omega

set_option maxRecDepth 100000 in
set_option maxHeartbeats 4000000 in
/-- **spec.FracText**. -/
theorem specText_as (x y : Int) (t : ByteArray) (w : World) (ht : textF (x, y) = t) :
    Calls Tryd.prog 7 #[.agg #[.int .i64 x, .int .i64 y]] w fun e w' => e = .returned (.string t) ∧ Below w.heap.size w w' := by
  have T0 := Lib.hid (Two.new w x y 24)
  have B0 := Lib.hid ((Below.refl _ w).alloc (Nat.le_refl _) (.cells #[.int .i64 x, .int .i64 y] 24))
  cases hv : fracB (x, y)
  · rw [textF_no hv] at ht
    have HT := Lib.hid ht
    have HV := Lib.hid hv
    clear ht hv
    obtain ⟨la, a0, a9, -, -⟩ := T0.out
    go_enter Tryd.func7, Tryd.ntmps7
    go_wp2_with fail
    refine (specFrac_as x y false _ HV.out).mono ?_
    rintro e w1 ⟨rfl, hb⟩
    have B1 := Lib.hid (below_on B0.out hb)
    clear hb
    go_wp2
    go_ret
    exact ⟨ret_str HT.out, B1.out⟩
  · rw [textF_yes hv] at ht
    obtain ⟨hx, hy, -⟩ := (fracB_iff _).1 hv
    have hx' : -9999999 ≤ x ∧ x ≤ 9999999 := hx
    have hy' : 1 ≤ y ∧ y ≤ 9999999 := hy
    have HT : Hid ((if 1 < y then minusB x ++ ⟨#[47]⟩ ++ decB y.toNat else minusB x) = t) := ht
    have HV := Lib.hid hv
    have hw0 : IntKind.i64.wrap (-x) = -x := IntWalk.i64_in _ (by omega)
    have hmx := max_neg x
    obtain ⟨s, hs⟩ : ∃ s, decB x.natAbs = s := ⟨_, rfl⟩
    obtain ⟨d, hd⟩ : ∃ d, decB y.toNat = d := ⟨_, rfl⟩
    have ls : s.size ≤ 7 := by rw [← hs]; exact decB_len (by omega)
    have ld : d.size ≤ 7 := by rw [← hd]; exact decB_len (by omega)
    have e45 : (⟨#[45]⟩ : ByteArray).size = 1 := rfl
    have e47 : (⟨#[47]⟩ : ByteArray).size = 1 := rfl
    have HS := Lib.hid hs
    have HD := Lib.hid hd
    clear ht hv hx hy hs hd
    obtain ⟨la, a0, a9, -, -⟩ := T0.out
    go_enter Tryd.func7, Tryd.ntmps7
    go_wp2_with fail
    refine (specFrac_as x y true _ HV.out).mono ?_
    rintro e w1 ⟨rfl, hb⟩
    have B1 := Lib.hid (below_on B0.out hb)
    have T1 := Lib.hid (T0.out.below hb)
    clear hb la a0 a9
    obtain ⟨la, a0, a9, -, -⟩ := T1.out
    go_wp2_with fail
    refine (dec_as x.natAbs _ s _ (by first | rfl | omega | (rw [hmx])) (by omega) HS.out).mono ?_
    rintro e w2 ⟨rfl, hb⟩
    have B2 := Lib.hid (below_on B1.out hb)
    have T2 := Lib.hid (T1.out.below hb)
    clear hb la a0 a9 hmx
    obtain ⟨la, a0, a9, -, -⟩ := T2.out
    by_cases hx0 : x < 0
    · have hdx : decide (x < 0) = true := decide_eq_true hx0
      have HM : Hid (minusB x = ⟨#[45]⟩ ++ s) := by unfold Hid; rw [minus_yes hx0, HS.out]
      have hz1 : ¬ 9223372036854775807 < (⟨#[45]⟩ : ByteArray).size + s.size := by omega
      obtain ⟨m, hm⟩ : ∃ m, (⟨#[45]⟩ : ByteArray) ++ s = m := ⟨_, rfl⟩
      have lm : m.size ≤ 8 := by rw [← hm, ByteArray.size_append]; omega
      by_cases hy1 : 1 < y
      · have hdy : decide (1 < y) = true := decide_eq_true hy1
        have HE := HT.out
        rw [if_pos hy1, HM.out, HD.out, hm] at HE
        have HE := Lib.hid HE
        have hz2 : ¬ 9223372036854775807 < m.size + (⟨#[47]⟩ : ByteArray).size := by omega
        have hz3 : ¬ 9223372036854775807 < (m ++ ⟨#[47]⟩).size + d.size := by rw [ByteArray.size_append]; omega
        go_wp2_with fail
        refine (dec_as y.toNat _ d _ (by omega) (by omega) HD.out).mono ?_
        rintro e w3 ⟨rfl, hb⟩
        have B3 := Lib.hid (below_on B2.out hb)
        clear hb la a0 a9
        go_wp2
        go_ret
        exact ⟨rfl, B3.out⟩
      · have hdy : decide (1 < y) = false := decide_eq_false hy1
        have HE := HT.out
        rw [if_neg hy1, HM.out, hm] at HE
        have HE := Lib.hid HE
        go_wp2
        go_ret
        exact ⟨rfl, B2.out⟩
    · have hdx : decide (x < 0) = false := decide_eq_false hx0
      have HM : Hid (minusB x = s) := by unfold Hid; rw [minus_no hx0, HS.out]
      by_cases hy1 : 1 < y
      · have hdy : decide (1 < y) = true := decide_eq_true hy1
        have HE := HT.out
        rw [if_pos hy1, HM.out, HD.out] at HE
        have HE := Lib.hid HE
        have hz2 : ¬ 9223372036854775807 < s.size + (⟨#[47]⟩ : ByteArray).size := by omega
        have hz3 : ¬ 9223372036854775807 < (s ++ ⟨#[47]⟩).size + d.size := by rw [ByteArray.size_append]; omega
        go_wp2_with fail
        refine (dec_as y.toNat _ d _ (by omega) (by omega) HD.out).mono ?_
        rintro e w3 ⟨rfl, hb⟩
        have B3 := Lib.hid (below_on B2.out hb)
        clear hb la a0 a9
        go_wp2
        go_ret
        exact ⟨rfl, B3.out⟩
      · have hdy : decide (1 < y) = false := decide_eq_false hy1
        have HE := HT.out
        rw [if_neg hy1, HM.out] at HE
        have HE := Lib.hid HE
        go_wp2
        go_ret
        exact ⟨rfl, B2.out⟩

end Go.Proofs.YtoancpdiilofmaaDoor
