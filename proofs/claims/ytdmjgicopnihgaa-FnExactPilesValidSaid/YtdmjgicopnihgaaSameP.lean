/-
  samePiles: whether two lists of piles are equal.
-/
import Derived.Test.YtdmjgicopnihgaaMergeS
import Derived.Laws.StructEq
namespace Go.Proofs.Ytdmjgicopnihgaa
open Go.RowKit

def eqP (xs ys : List Pl) : Bool := decide (xs = ys)
theorem eqP_self (xs : List Pl) : eqP xs xs = true := by simp [eqP]
theorem takeP_step {xs ys : List Pl} {k : Nat} (hx : k < xs.length) (hy : k < ys.length) (h : xs.take k = ys.take k) (ht : tAt xs k = tAt ys k) (hm : mAt xs k = mAt ys k) : xs.take (k + 1) = ys.take (k + 1) := by
  rw [take_one hx, take_one hy, h, ht, hm]
theorem takeP_part {xs ys : List Pl} {k : Nat} (h : ¬ (tAt xs k = tAt ys k ∧ mAt xs k = mAt ys k)) : eqP xs ys = false := by
  simp only [eqP, decide_eq_false_iff_not]
  rintro rfl
  exact h ⟨rfl, rfl⟩

theorem pile_under : Try.prog.underlying 37 = some (.struct (Try.prog.fieldsOf 37)) := by kernel_rfl
theorem pile_stood : Try.prog.stoodInHeld 37 = false := by kernel_rfl
theorem pile_guard : Try.prog.eqGuardType Try.prog.depth 37 = false := by kernel_rfl
theorem text_ne {a b : ByteArray} (h : ¬ a = b) : ¬ a.toList = b.toList := fun e => h (list_text e)

theorem run_neqP (t1 t2 : ByteArray) (m1 m2 : Int) (v : Bool) (hv : (!(decide (t1 = t2) && decide (m1 = m2))) = v) (w : World) : (binOp .neq 37 (.agg #[.string t1, .int .i64 m1]) (.agg #[.string t2, .int .i64 m2])).run Try.prog w = .ok (.bool v) w := by
  subst hv
  rw [run_neq_struct, run_equalIn_agg _ _ _ _ _ pile_under pile_stood]
  simp [go_sem, Program.fieldsOf, Try.underlying37, Try.underlying9, Try.underlying3, Op.eqFields]
  by_cases h : t1 = t2
  · subst h
    by_cases h2 : m1 = m2 <;> simp [h2]
  · simp [text_ne h, h]
theorem run_guardP (x y : Operand) (xs ys : Array Value) (w : World) : (eqGuard .neq 37 x y (.agg xs) (.agg ys)).run Try.prog w = .ok () w := run_eqGuard_agg w .neq _ x y xs ys pile_guard

set_option maxRecDepth 100000 in
set_option maxHeartbeats 4000000 in
/-- **samePiles**. -/
theorem samePiles_any (a1 : Option Addr) (l1 c1 : Nat) (xs : List Pl) (a2 : Option Addr) (l2 c2 : Nat) (ys : List Pl) (w : World) (h : IsPiles w a1 l1 c1 xs) (h' : IsPiles w a2 l2 c2 ys) :
    Calls Try.prog 19 #[.slice a1 l1 c1, .slice a2 l2 c2] w fun e w' => e = .returned (.bool (eqP xs ys)) ∧ Dr w w' := by
  have HI := Lib.hid h
  have HI' := Lib.hid h'
  have H1 := Lib.hid h.1
  have H1' := Lib.hid h'.1
  have hmax := h.2.2.1
  clear h h'
  have hgd := run_guardP
  by_cases hll : l1 = l2
  · have hne : ((l1 : Int) != (l2 : Int)) = false := by simp [hll]
    subst hll
    go_enter Try.func19, Try.ntmps19
    go_wp2
    go_loopw [5] (fun i wr => ∃ k : Nat, k ≤ l1 ∧ i = .int .i64 k ∧ Hid (xs.take k = ys.take k) ∧ Dr w wr) (fun i _ => l1 - (intOf i).toNat)
    case atStart => exact ⟨0, Nat.zero_le _, rfl, rfl, Dr.refl _⟩
    case round =>
      obtain ⟨k, hk, rfl, hT, hD⟩ := hrel
      by_cases hlt : k < l1
      · obtain ⟨b, off, rfl, hb, c0, d0⟩ := (HI.out.dr hD).piles hlt
        obtain ⟨b', off', rfl, hb', c1', d1⟩ := (HI'.out.dr hD).piles hlt
        obtain ⟨t1, ht1⟩ : ∃ t1, tAt xs k = t1 := ⟨_, rfl⟩
        obtain ⟨t2, ht2⟩ : ∃ t2, tAt ys k = t2 := ⟨_, rfl⟩
        obtain ⟨m1, hm1⟩ : ∃ m1, mAt xs k = m1 := ⟨_, rfl⟩
        obtain ⟨m2, hm2⟩ : ∃ m2, mAt ys k = m2 := ⟨_, rfl⟩
        have HP : Hid (¬ (t1 = t2 ∧ m1 = m2) → eqP xs ys = false) := fun hh => takeP_part (by rw [ht1, ht2, hm1, hm2]; exact hh)
        have HS : Hid (t1 = t2 → m1 = m2 → xs.take (k + 1) = ys.take (k + 1)) := fun h1 h2 => takeP_step (by rw [H1.out]; exact hlt) (by rw [H1'.out]; exact hlt) hT.out (by rw [ht1, ht2, h1]) (by rw [hm1, hm2, h2])
        rw [ht1] at c0
        rw [hm1] at d0
        rw [ht2] at c1'
        rw [hm2] at d1
        clear ht1 ht2 hm1 hm2
        obtain ⟨v, hv⟩ : ∃ v, (!(decide (t1 = t2) && decide (m1 = m2))) = v := ⟨_, rfl⟩
        have hq := run_neqP t1 t2 m1 m2 v hv
        cases v
        · have HSS : Hid (xs.take (k + 1) = ys.take (k + 1)) := by
            simp only [Bool.not_eq_false', Bool.and_eq_true, decide_eq_true_iff] at hv
            exact HS.out hv.1 hv.2
          clear HS HP hv
          go_wp2_with fail
          go_quiet (fail)
          go_wp2
          go_roundw
          case rel => exact ⟨k + 1, by omega, by go_num, HSS, hD.drewN _⟩
          case measure => simp [intOf]; omega
        · have HF : Hid (eqP xs ys = false) := by
            refine HP.out fun hh => ?_
            rw [decide_eq_true hh.1, decide_eq_true hh.2] at hv
            cases hv
          clear HS HP hv
          go_wp2_with fail
          go_quiet (fail)
          go_wp2
          go_ret
          exact ⟨ret_bool HF.out.symm, hD.drewN _⟩
      · obtain rfl : k = l1 := by omega
        have HF : Hid (eqP xs ys = true) := by
          have := hT.out
          rw [List.take_of_length_le (by rw [H1.out]; omega), List.take_of_length_le (by rw [H1'.out]; omega)] at this
          simp [Hid, eqP, this]
        go_wp2
        go_ret
        exact ⟨ret_bool HF.out.symm, hD⟩
  · have hne : ((l1 : Int) != (l2 : Int)) = true := by simp; omega
    have HF : Hid (eqP xs ys = false) := by
      simp only [Hid, eqP, decide_eq_false_iff_not]
      intro e
      have h1 := H1.out
      have h2 := H1'.out
      rw [e] at h1
      omega
    go_enter Try.func19, Try.ntmps19
    go_wp2
    go_ret
    exact ⟨ret_bool HF.out.symm, Dr.refl _⟩
theorem samePiles_as (a1 : Option Addr) (l1 c1 : Nat) (xs : List Pl) (a2 : Option Addr) (l2 c2 : Nat) (ys : List Pl) (v : Bool) (w : World) (h : IsPiles w a1 l1 c1 xs) (h' : IsPiles w a2 l2 c2 ys) (hv : eqP xs ys = v) :
    Calls Try.prog 19 #[.slice a1 l1 c1, .slice a2 l2 c2] w fun e w' => e = .returned (.bool v) ∧ Dr w w' := by subst hv; exact samePiles_any a1 l1 c1 xs a2 l2 c2 ys w h h'

end Go.Proofs.Ytdmjgicopnihgaa
