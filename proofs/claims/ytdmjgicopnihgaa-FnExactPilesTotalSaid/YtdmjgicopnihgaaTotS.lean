/-
  spec.l3Total, spec.PilesTotal, impl.PilesTotal: for lists of piles with texts of at most 1048600 bytes.
-/
import Derived.Test.YtdmjgicopnihgaaMergeS
import Derived.Test.YtdmjgicopnihgaaPilesVI
namespace Go.Proofs.Ytdmjgicopnihgaa
open Go.RowKit

theorem sumL_app (a b : List Pl) : sumL (a ++ b) = sumL a + sumL b := by
  induction a with
  | nil => simp [sumL]
  | cons p a ih => rw [List.cons_append, sumL_cons, sumL_cons, ih]; omega
theorem sum_take {ps : List Pl} {k : Nat} (h : k < ps.length) : sumL (ps.take (k + 1)) = sumL (ps.take k) + mAt ps k := by
  rw [take_one h, sumL_app]; simp [sumL]
theorem sum_bound {ps : List Pl} (h : ∀ i, 0 ≤ mAt ps i ∧ mAt ps i ≤ 1000000) (k : Nat) (hk : k ≤ ps.length) : 0 ≤ sumL (ps.take k) ∧ sumL (ps.take k) ≤ 1000000 * (k : Int) := by
  induction k with
  | zero => simp [sumL]
  | succ k ih =>
    have := ih (by omega)
    rw [sum_take (by omega)]
    have := h k
    omega
theorem implPiles_as (a : Option Addr) (len cap : Nat) (ps : List Pl) (v : Bool) (w : World) (h : IsPiles w a len cap ps) (hs : Small ps) (hv : pilesB ps = v) :
    Calls Try.prog 20 #[.slice a len cap] w fun e w' => e = .returned (.bool v) ∧ Below w.heap.size w w' := by subst hv; exact implPiles_any a len cap ps w h hs

set_option maxRecDepth 100000 in
set_option maxHeartbeats 2000000 in
/-- **spec.l3Total**. -/
theorem l3Total_any (a : Option Addr) (len cap : Nat) (ps : List Pl) (w : World) (h : IsPiles w a len cap ps) (hm : ∀ i, 0 ≤ mAt ps i ∧ mAt ps i ≤ 1000000) :
    Calls Try.prog 51 #[.slice a len cap] w fun e w' => e = .returned (.int .i64 (sumL ps)) ∧ w = w' := by
  have HI := Lib.hid h
  have H1 := Lib.hid h.1
  have HM := Lib.hid hm
  have hmax := h.2.2.1
  clear h hm
  go_enter Try.func51, Try.ntmps51
  go_wp2
  go_loop [3, 4] (fun n i => ∃ k : Nat, k ≤ len ∧ i = .int .i64 k ∧ n = .int .i64 (sumL (ps.take k))) (fun _ i => len - (intOf i).toNat)
  case atStart => exact ⟨0, Nat.zero_le _, rfl, rfl⟩
  case round =>
    obtain ⟨k, hk, rfl, rfl⟩ := hrel
    obtain ⟨s, hs⟩ : ∃ s, sumL (ps.take k) = s := ⟨_, rfl⟩
    have hb := sum_bound HM.out k (by rw [H1.out]; exact hk)
    by_cases hlt : k < len
    · obtain ⟨b, off, rfl, _, _, c1⟩ := HI.out.piles hlt
      obtain ⟨m, hm⟩ : ∃ m, mAt ps k = m := ⟨_, rfl⟩
      have hst := sum_take (ps := ps) (k := k) (by rw [H1.out]; exact hlt)
      have hmb := HM.out k
      rw [hm] at c1 hmb hst
      rw [hs] at hb hst ⊢
      have HST := Lib.hid hst
      clear hst hm hs
      have hw1 : IntKind.i64.wrap (s + m) = s + m := IntWalk.i64_in _ (by omega)
      go_wp2
      refine ⟨⟨k + 1, by omega, by go_num, by rw [HST.out]⟩, ?_⟩
      simp [intOf]; omega
    · obtain rfl : k = len := by omega
      have hall : sumL (ps.take k) = sumL ps := by rw [List.take_of_length_le (by rw [H1.out]; omega)]
      rw [hall]
      clear hall hs hb
      go_wp2
      go_ret
      exact ⟨rfl, rfl⟩

set_option maxRecDepth 100000 in
set_option maxHeartbeats 2000000 in
/-- **spec.PilesTotal**. -/
theorem specTotal_as (a : Option Addr) (len cap : Nat) (ps : List Pl) (n : Int) (w : World) (h : IsPiles w a len cap ps) (hs : Small ps) (hn : totalL ps = n) :
    Calls Try.prog 31 #[.slice a len cap] w fun e w' => e = .returned (.int .i64 n) ∧ Below w.heap.size w w' := by
  have HI := Lib.hid h
  have HS := Lib.hid hs
  have HN := Lib.hid hn
  clear h hs hn
  go_enter Try.func31, Try.ntmps31
  cases hv : pilesB ps
  · have e : Hid (n = -1) := by rw [Hid, ← HN.out, totalL, hv]; rfl
    have HV := Lib.hid hv; clear hv
    go_wp2_with fail
    refine (specPiles_as _ len cap ps false _ HI.out HS.out HV.out).mono ?_
    rintro e1 w1 ⟨rfl, hb1⟩
    go_wp2
    go_ret
    exact ⟨ret_int e.out.symm, hb1⟩
  · have e : Hid (sumL ps = n) := by rw [Hid, ← HN.out, totalL, hv]; rfl
    have HM := Lib.hid (mAt_wide (mAt_valid hv))
    have HV := Lib.hid hv; clear hv
    go_wp2_with fail
    refine (specPiles_as _ len cap ps true _ HI.out HS.out HV.out).mono ?_
    rintro e1 w1 ⟨rfl, hb1⟩
    have I1 := Lib.hid (HI.out.below hb1)
    go_wp2_with fail
    refine (l3Total_any _ len cap ps _ I1.out HM.out).mono ?_
    rintro e1 w2 ⟨he, rfl⟩
    rw [e.out] at he
    subst he
    go_wp2
    go_ret
    exact ⟨rfl, hb1⟩

set_option maxRecDepth 100000 in
set_option maxHeartbeats 2000000 in
/-- **impl.PilesTotal**. -/
theorem implTotal_as (a : Option Addr) (len cap : Nat) (ps : List Pl) (n : Int) (w : World) (h : IsPiles w a len cap ps) (hs : Small ps) (hn : totalL ps = n) :
    Calls Try.prog 21 #[.slice a len cap] w fun e w' => e = .returned (.int .i64 n) ∧ Below w.heap.size w w' := by
  have HI := Lib.hid h
  have HS := Lib.hid hs
  have HN := Lib.hid hn
  have H1 := Lib.hid h.1
  clear h hs hn
  obtain ⟨G, hG⟩ : ∃ G, w.heap.size = G := ⟨_, rfl⟩
  cases hv : pilesB ps
  · have e : Hid (n = -1) := by rw [Hid, ← HN.out, totalL, hv]; rfl
    have HV := Lib.hid hv; clear hv
    go_enter Try.func21, Try.ntmps21
    go_wp2_with fail
    refine (implPiles_as _ len cap ps false _ HI.out HS.out HV.out).mono ?_
    rintro e1 w1 ⟨rfl, hb1⟩
    go_wp2
    go_ret
    exact ⟨ret_int e.out.symm, hb1⟩
  · have e : Hid (sumL ps = n) := by rw [Hid, ← HN.out, totalL, hv]; rfl
    have HM := Lib.hid (mAt_wide (mAt_valid hv))
    have hl12 : len ≤ 12 := by have := (pilesB_pos hv).2.2.2.2; rw [H1.out] at this; exact this
    have HV := Lib.hid hv; clear hv
    go_enter Try.func21, Try.ntmps21
    go_wp2_with fail
    refine (implPiles_as _ len cap ps true _ HI.out HS.out HV.out).mono ?_
    rintro e1 w1 ⟨rfl, hb1⟩
    have B1 := Lib.hid (hG ▸ hb1); clear hb1
    go_wp2
    go_loopw [3, 11] (fun s i wr => ∃ k : Nat, k ≤ len ∧ i = .int .i64 k ∧ s = .int .i64 (sumL (ps.take k)) ∧ Below G w wr) (fun _ i _ => len - (intOf i).toNat)
    case atStart => exact ⟨0, Nat.zero_le _, rfl, rfl, B1.out⟩
    case round =>
      obtain ⟨k, hk, rfl, rfl, hB⟩ := hrel
      obtain ⟨s, hs⟩ : ∃ s, sumL (ps.take k) = s := ⟨_, rfl⟩
      have hb := sum_bound HM.out k (by rw [H1.out]; exact hk)
      have hBw : Below w.heap.size w wr := hG.symm ▸ hB
      by_cases hlt : k < len
      · obtain ⟨b, off, rfl, hb', c0, c1⟩ := (HI.out.below hBw).piles hlt
        obtain ⟨m, hm⟩ : ∃ m, mAt ps k = m := ⟨_, rfl⟩
        have hst := sum_take (ps := ps) (k := k) (by rw [H1.out]; exact hlt)
        have hmb := HM.out k
        rw [hm] at c1 hmb hst
        rw [hs] at hb hst ⊢
        have HST := Lib.hid hst
        clear hst hm hs
        have hw1 : IntKind.i64.wrap (s + m) = s + m := IntWalk.i64_in _ (by omega)
        go_wp2
        go_roundw
        case rel => exact ⟨k + 1, by omega, by go_num, by rw [HST.out], hB.alloc (hG ▸ hBw.size) _⟩
        case measure => simp [intOf]; omega
      · obtain rfl : k = len := by omega
        have hall : sumL (ps.take k) = n := by rw [List.take_of_length_le (by rw [H1.out]; omega)]; exact e.out
        rw [hall]
        clear hall hs hb
        go_wp2
        go_ret
        exact ⟨rfl, hBw⟩

end Go.Proofs.Ytdmjgicopnihgaa
