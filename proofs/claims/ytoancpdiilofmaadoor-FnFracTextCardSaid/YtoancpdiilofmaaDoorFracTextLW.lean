/-
  laws.FnFracText returns true for every code: impl.FracText answers as the model does at the drawn fraction; the text is empty exactly if the fraction is not valid, and has a slash exactly if the denominator of a valid one is greater than 1. Its conditions: what the statement says itself (a code of at most 2^20 bytes), and the three listed tables of the library hold what the program's text lays (tied by the card).
-/
import Derived.Test.YtoancpdiilofmaaDoorOpen
import Derived.Test.YtoancpdiilofmaaDoorTabI
import Derived.Test.YtoancpdiilofmaaDoorTextIF
import Derived.Test.YtoancpdiilofmaaDoorFracEt
namespace Go.Proofs.YtoancpdiilofmaaDoor.fnFracTextCard
open Go.RowKit
set_option linter.unusedVariables false

theorem slash_next (t : ByteArray) (k : Nat) (h : k < t.size) (b q : Bool) (hb : slashTo t k = b) (hq : (((t[k].toNat : Nat) : Int) == 47) = q) : slashTo t (k + 1) = (b || q) := by
  rw [slashTo_succ t k h, hb]
  congr 1
  rw [← hq, Bool.eq_iff_iff]
  simp only [beq_iff_eq]
  constructor
  · intro e; rw [e]; rfl
  · intro e
    have e2 : t[k].toNat = 47 := by omega
    exact UInt8.toNat_inj.1 (by rw [e2]; rfl)
theorem empty_list {t : ByteArray} (h : t ≠ ByteArray.empty) : t.toList.isEmpty = false := by
  cases hx : t.toList.isEmpty
  · rfl
  · exact absurd (ByteArray.ext (Array.toList_inj.1 (by rw [ByteArray.toList_eq] at hx; rw [List.isEmpty_iff.1 hx]; rfl))) h
theorem text_len {x y : Int} (h : fracB (x, y) = true) : (textV (x, y)).size ≤ 16 := by
  obtain ⟨hx, hy, -⟩ := (fracB_iff _).1 h
  have hx' : -9999999 ≤ x ∧ x ≤ 9999999 := hx
  have hy' : 1 ≤ y ∧ y ≤ 9999999 := hy
  have h1 := minus_len hx'
  have h2 := decB_len (n := y.toNat) (by omega)
  have e47 : (⟨#[47]⟩ : ByteArray).size = 1 := rfl
  show (if 1 < y then minusB x ++ ⟨#[47]⟩ ++ decB y.toNat else minusB x).size ≤ 16
  split
  · rw [ByteArray.size_append, ByteArray.size_append]; omega
  · omega
set_option maxRecDepth 100000 in
set_option maxHeartbeats 2000000 in
/-- The law's walk: it returns true, and writes nothing that was there. -/
theorem walk (a0 : Option Addr) (len0 cap0 : Nat) (z0 : List Int) (w : World) (w0 : IsRow .u8 w a0 len0 cap0 z0) (hT0 : Tab w) :
    Calls Tryd.prog 3 #[.slice a0 len0 cap0] w fun e w' => e = .returned (.bool true) ∧ Below w.heap.size w w' := by
  by_cases hl : len0 ≤ 1048576
  · have hcap := w0.cap
    have HB := Lib.hid w0.bytes; clear w0
    have TT0 := Lib.hid hT0; clear hT0
    go_enter Tryd.func3, Tryd.ntmps3
    go_wp2_with fail
    refine (drawFracText_any a0 len0 cap0 _ _ HB.out hcap (by omega)).mono ?_
    rintro e w1 ⟨x, y, rfl, hb⟩
    have B1 := Lib.hid (below_more hb (.cells #[.int .i64 x, .int .i64 y] 24))
    have L1 := Lib.hid (Two.new w1 x y 24)
    have TT1 := Lib.hid (TT0.out.below B1.out)
    clear hb HB
    obtain ⟨t, ht⟩ : ∃ t, textF (x, y) = t := ⟨_, rfl⟩
    have HT := Lib.hid ht
    clear ht
    have hne : (t.toList == t.toList) = true := by simp
    go_wp2_with fail
    refine (implText_as x y t _ TT1.out HT.out).mono ?_
    rintro e w2 ⟨rfl, hb⟩
    have B2 := Lib.hid (below_on B1.out hb)
    have L2 := Lib.hid (L1.out.below hb)
    clear hb
    obtain ⟨la, p0, p9, -, -⟩ := L2.out
    go_wp2_with fail
    refine (specText_as x y t _ HT.out).mono ?_
    rintro e w3 ⟨rfl, hb⟩
    have B3 := Lib.hid (below_on B2.out hb)
    have L3 := Lib.hid (L2.out.below hb)
    clear hb la p0 p9
    obtain ⟨la, p0, p9, -, -⟩ := L3.out
    cases hv : fracB (x, y)
    · have hte : t = ByteArray.empty := by rw [← HT.out, textF_no hv]
      subst hte
      have HV := Lib.hid hv
      clear hv
      go_wp2_with fail
      go_loop [6, 7] (fun sv iv => sv = .bool false ∧ iv = .int .i64 0) (fun _ _ => 0)
      case atStart => exact ⟨rfl, rfl⟩
      case round =>
        obtain ⟨rfl, rfl⟩ := hrel
        have hs0 : ByteArray.empty.size = 0 := rfl
        go_wp2_with fail
        refine (implFrac_as x y false _ HV.out).mono ?_
        rintro e w4 ⟨rfl, hb⟩
        have B4 := Lib.hid (below_on B3.out hb)
        have L4 := Lib.hid (L3.out.below hb)
        clear hb la p0 p9
        obtain ⟨la, p0, p9, -, -⟩ := L4.out
        go_wp2_with fail
        refine (implFrac_as x y false _ HV.out).mono ?_
        rintro e w5 ⟨rfl, hb⟩
        have B5 := Lib.hid (below_on B4.out hb)
        clear hb
        go_wp2
        go_ret
        exact ⟨rfl, B5.out⟩
    · have htv : t = textV (x, y) := by rw [← HT.out, textF_yes hv]
      have hSL : Hid (slashTo t t.size = decide (1 < y)) := by unfold Hid; rw [slashTo_all, htv]; exact text_slash _
      have hem : t.toList.isEmpty = false := empty_list (by rw [htv]; exact text_some _)
      have htz : t.size ≤ 16 := by rw [htv]; exact text_len hv
      have HV := Lib.hid hv
      clear hv htv
      go_wp2_with fail
      go_loop [6, 7] (fun sv iv => ∃ k : Nat, k ≤ t.size ∧ iv = .int .i64 k ∧ ∃ b, sv = .bool b ∧ Hid (slashTo t k = b)) (fun _ iv => t.size - (intOf iv).toNat)
      case atStart => exact ⟨0, Nat.zero_le _, rfl, false, rfl, slashTo_zero t⟩
      case round =>
        obtain ⟨k, hk, rfl, b, rfl, hsl⟩ := hrel
        by_cases hlt : k < t.size
        · obtain ⟨q, hq⟩ : ∃ q, (((t[k].toNat : Nat) : Int) == 47) = q := ⟨_, rfl⟩
          have hk1 : k + 1 ≤ t.size := hlt
          have hw1 : IntKind.i64.wrap ((k : Int) + 1) = (k : Int) + 1 := IntWalk.i64_in _ (by omega)
          have HN := Lib.hid (slash_next t k hlt b q hsl.out hq)
          cases b
          · go_wp2_with fail
            go_round
            case rel => exact ⟨k + 1, hk1, by go_num, q, rfl, by unfold Hid; rw [HN.out]; rfl⟩
            case measure => simp [intOf]; omega
          · go_wp2_with fail
            go_round
            case rel => exact ⟨k + 1, hk1, by go_num, true, rfl, by unfold Hid; rw [HN.out]; rfl⟩
            case measure => simp [intOf]; omega
        · obtain rfl : k = t.size := by omega
          have hbd : b = decide (1 < y) := by rw [← hsl.out, hSL.out]
          go_wp2_with fail
          refine (implFrac_as x y true _ HV.out).mono ?_
          rintro e w4 ⟨rfl, hb⟩
          have B4 := Lib.hid (below_on B3.out hb)
          have L4 := Lib.hid (L3.out.below hb)
          clear hb la p0 p9
          obtain ⟨la, p0, p9, -, -⟩ := L4.out
          go_wp2_with fail
          refine (implFrac_as x y true _ HV.out).mono ?_
          rintro e w5 ⟨rfl, hb⟩
          have B5 := Lib.hid (below_on B4.out hb)
          have L5 := Lib.hid (L4.out.below hb)
          clear hb la p0 p9
          obtain ⟨la, p0, p9, -, -⟩ := L5.out
          have hbb : (b == decide (1 < y)) = true := by rw [hbd]; simp
          clear hbd
          go_wp2
          go_ret
          exact ⟨rfl, B5.out⟩
  · have hl2 : (1048576 : Int) < (len0 : Int) := by omega
    clear w0
    go_enter Tryd.func3, Tryd.ntmps3
    go_wp2
    go_ret
    exact ⟨rfl, Below.refl _ _⟩

end Go.Proofs.YtoancpdiilofmaaDoor.fnFracTextCard
