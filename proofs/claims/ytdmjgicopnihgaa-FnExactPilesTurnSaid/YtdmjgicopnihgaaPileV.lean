/-
  spec.l3Pile and impl's Pile.valid answer alike: for every pile with a text of at most 1048576 bytes; neither writes into memory that was there.
-/
import Derived.Test.YtdmjgicopnihgaaPiles
import Derived.Test.YtdmjgicopnihgaaParseB
namespace Go.Proofs.Ytdmjgicopnihgaa
open Go.RowKit

theorem ret_bool' {a b : Bool} (h : a = b) : Ending.returned (.bool a) = .returned (.bool b) := by rw [h]

set_option maxHeartbeats 1000000 in
/-- **spec.l3Pile**: whether a pile is valid. -/
theorem l3Pile_any (t : ByteArray) (m : Int) (w : World) (hs : t.size ≤ 1048600) :
    Calls Try.prog 42 #[.agg #[.string t, .int .i64 m]] w fun e w' => e = .returned (.bool (pileB t m)) ∧ Below w.heap.size w w' := by
  obtain ⟨pl, hpl⟩ : ∃ pl, parseL t = pl := ⟨_, rfl⟩
  obtain ⟨ok, hok⟩ : ∃ ok, validB (nums t) 5 = ok := ⟨_, rfl⟩
  have HP : Hid (pileB t m = (ok && inB m 1 99)) := by rw [Hid, pileB, hok]
  have HPL := Lib.hid hpl
  have HOK := Lib.hid hok
  clear hpl hok
  go_enter Try.func42, Try.ntmps42
  go_wp2_with fail
  refine (specParse_as t pl ok _ hs HPL.out HOK.out).mono ?_
  rintro e w1 ⟨a, cap, rfl, ho, hb⟩
  have hc : w1.cell? ⟨w.heap.size, 1, none⟩ = some (.int .i64 m) := (hb.cell (p := ⟨w.heap.size, 1, none⟩) (by simp)).trans (World.cell?_alloc_new w _ _ 1)
  have hB : Below w.heap.size w w1 := ((Below.refl _ w).alloc (Nat.le_refl _) _).trans (hb.mono (by simp))
  clear ho
  cases ok
  · go_wp2
    go_ret
    exact ⟨ret_bool HP.out.symm, hB⟩
  · go_wp2_with fail
    refine (l6In_any m 1 99 _).mono ?_
    rintro e w2 ⟨rfl, rfl⟩
    go_wp2
    go_ret
    exact ⟨ret_bool HP.out.symm, hB⟩

set_option maxHeartbeats 1000000 in
/-- **impl's Pile.valid**. -/
theorem pileValid_any (t : ByteArray) (m : Int) (w : World) (hs : t.size ≤ 1048600) :
    Calls Try.prog 44 #[.agg #[.string t, .int .i64 m]] w fun e w' => e = .returned (.bool (pileB t m)) ∧ Below w.heap.size w w' := by
  obtain ⟨pl, hpl⟩ : ∃ pl, parseL t = pl := ⟨_, rfl⟩
  obtain ⟨ok, hok⟩ : ∃ ok, validB (nums t) 5 = ok := ⟨_, rfl⟩
  have HP : Hid (pileB t m = (ok && inB m 1 99)) := by rw [Hid, pileB, hok]
  have HPL := Lib.hid hpl
  have HOK := Lib.hid hok
  clear hpl hok
  go_enter Try.func44, Try.ntmps44
  go_wp2_with fail
  refine (implParse_as t pl ok _ hs HPL.out HOK.out).mono ?_
  rintro e w1 ⟨a, cap, rfl, ho, hb⟩
  have hc : w1.cell? ⟨w.heap.size, 1, none⟩ = some (.int .i64 m) := (hb.cell (p := ⟨w.heap.size, 1, none⟩) (by simp)).trans (World.cell?_alloc_new w _ _ 1)
  have hB : Below w.heap.size w w1 := ((Below.refl _ w).alloc (Nat.le_refl _) _).trans (hb.mono (by simp))
  clear ho
  cases ok
  · go_wp2
    go_ret
    exact ⟨ret_bool HP.out.symm, hB⟩
  · by_cases h1 : 1 ≤ m
    · have d1 : decide ((1 : Int) ≤ m) = true := decide_eq_true h1
      by_cases h2 : m ≤ 99
      · have d2 : decide (m ≤ (99 : Int)) = true := decide_eq_true h2
        have HE : Hid (pileB t m = true) := by rw [Hid, HP.out]; simp [inB, h1, h2]
        go_wp2
        go_ret
        exact ⟨ret_bool HE.out.symm, hB⟩
      · have d2 : decide (m ≤ (99 : Int)) = false := decide_eq_false h2
        have HE : Hid (pileB t m = false) := by rw [Hid, HP.out]; simp [inB, h2]
        go_wp2
        go_ret
        exact ⟨ret_bool HE.out.symm, hB⟩
    · have d1 : decide ((1 : Int) ≤ m) = false := decide_eq_false h1
      have HE : Hid (pileB t m = false) := by rw [Hid, HP.out]; simp [inB, h1]
      go_wp2
      go_ret
      exact ⟨ret_bool HE.out.symm, hB⟩

theorem l3Pile_as (t : ByteArray) (m : Int) (v : Bool) (w : World) (hs : t.size ≤ 1048600) (hv : pileB t m = v) :
    Calls Try.prog 42 #[.agg #[.string t, .int .i64 m]] w fun e w' => e = .returned (.bool v) ∧ Below w.heap.size w w' := by subst hv; exact l3Pile_any t m w hs
theorem pileValid_as (t : ByteArray) (m : Int) (v : Bool) (w : World) (hs : t.size ≤ 1048600) (hv : pileB t m = v) :
    Calls Try.prog 44 #[.agg #[.string t, .int .i64 m]] w fun e w' => e = .returned (.bool v) ∧ Below w.heap.size w w' := by subst hv; exact pileValid_any t m w hs

end Go.Proofs.Ytdmjgicopnihgaa
