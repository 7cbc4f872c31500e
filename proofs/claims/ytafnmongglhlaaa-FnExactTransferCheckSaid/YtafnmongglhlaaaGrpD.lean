/-
  markIntS and heldIntS: the first writes ascending numbers into a slice of the caller's own, the second finds them again.
  markIntS writes into the one block of its slice.
  Marks that are those of a form: l2Marks and impl.marksValid answer alike for every list of at most 1048600 ints, and write nothing.
  The marks on which more than half of all readers agree, as a list. Of no memory.
  What a slice of slices of ints holds; l2Count and spec.MarksAgree. No condition but what each theorem says.
  A table of a call's own: rows of n cells, each in a block of its own. Of no function of the seat.
  Marks of a table: markIntSS writes into its rows alone, heldIntSS finds them again; equal lists of ints. No condition but what each theorem says.
-/
import Derived.Test.YtafnmongglhlaaaGrp6
import Derived.Test.YtafnmongglhlaaaGrp4
import Derived.Test.YtafnmongglhlaaaGrp1
import Derived.Test.YtafnmongglhlaaaGrp2
import Derived.Deep.Onto
namespace Go.Proofs.Ytafnmongglhlaaa
open Go.RowKit

/-- Ascending numbers from k on. -/
def marks (k : Int) (n : Nat) : List Int := (List.range n).map fun (j : Nat) => k + (j : Int)
theorem marks_length (k : Int) (n : Nat) : (marks k n).length = n := by simp [marks]
theorem marks_succ (k : Int) (n : Nat) : marks k (n + 1) = marks k n ++ [k + (n : Int)] := by simp [marks, List.range_succ]
theorem marks_at (k : Int) (n j : Nat) (h : j < n) : (marks k n)[j]?.getD 0 = k + (j : Int) := by simp [marks, h]

/-- The first j are marked. -/
def markTo (xs : List Value) (k : Int) (j : Nat) : List Value := (marks k j).map (Value.int .i64) ++ xs.drop j
theorem markTo_step (xs : List Value) (k : Int) (j : Nat) (h : j < xs.length) : (markTo xs k j).set j (.int .i64 (k + (j : Int))) = markTo xs k (j + 1) := by
  have hl : ((marks k j).map (Value.int .i64)).length = j := by simp [marks]
  unfold markTo
  rw [marks_succ, List.map_append, List.append_assoc, List.set_append_right _ _ (by omega), hl, Nat.sub_self, List.drop_eq_getElem_cons h, List.set_cons_zero]
  rfl

set_option maxHeartbeats 1000000 in
/-- **markIntS**. -/
theorem markInt_any (base : Nat) (a : Option Addr) (len cap : Nat) (xs : List Value) (k : Int) (w : World) (h : w.ownsRow base 3 1 (.slice a len cap) len xs) (hl : len ≤ 1048600) (hk0 : 0 ≤ k) (hk : k ≤ 1000000000000) :
    Calls Try.prog 40 #[.slice a len cap, .int .i64 k] w fun e w' => e = .returned (.int .i64 (k + (len : Int))) ∧ w'.ownsRow base 3 1 (.slice a len cap) len ((marks k len).map (Value.int .i64)) ∧ Below base w w' := by
  have hxl : xs.length = len := by have := h.1; omega
  have HX := Lib.hid hxl; clear hxl
  have HO : Hid (w.ownsRow base 3 1 (.slice a len cap) len (markTo xs k 0)) := by unfold Hid; simpa [markTo, marks] using h
  clear h
  go_enter Try.func40, Try.ntmps40
  go_wp2
  go_loopw [1, 5] (fun q i wr => ∃ j : Nat, j ≤ len ∧ i = .int .i64 j ∧ q = .int .i64 (k + (j : Int)) ∧ Hid (wr.ownsRow base 3 1 (.slice a len cap) len (markTo xs k j)) ∧ Below base w wr) (fun _ i _ => len - (intOf i).toNat)
  case atStart => exact ⟨0, Nat.zero_le _, rfl, by simp, HO, Below.refl _ _⟩
  case round =>
    obtain ⟨j, hj, rfl, rfl, ho, hB⟩ := hrel
    by_cases hlt : j < len
    · obtain ⟨g, hg, hgb⟩ : ∃ g, a = some ⟨g, 0, none⟩ ∧ base ≤ g := by
        rcases ho.out.2 with ⟨_, e0⟩ | ⟨g, c, _, e, hb, _⟩
        · omega
        · injection e with e1 _ _; exact ⟨g, e1, hb⟩
      subst hg
      have hfz := ho.out.frozenAt j
      have hcg := ho.out.cellAt j (by omega)
      have hlen : j < (markTo xs k j).length := by simp [markTo, marks, HX.out]; omega
      rw [List.getElem?_eq_getElem hlen] at hcg
      obtain ⟨v0, hv0⟩ : ∃ v0, (markTo xs k j)[j] = v0 := ⟨_, rfl⟩
      rw [hv0] at hcg
      clear hv0 hlen
      have HS := Lib.hid (ho.out.stored j (.int .i64 (k + (j : Int))))
      go_wp2
      go_roundw
      case rel => exact ⟨j + 1, by omega, by go_num, by push_cast; rw [Int.add_assoc], by unfold Hid; rw [← markTo_step xs k j (by rw [HX.out]; exact hlt)]; exact HS.out.1, hB.setCell (p := ⟨g, j, none⟩) hgb _⟩
      case measure => simp [intOf]; omega
    · obtain rfl : j = len := by omega
      go_wp2
      go_ret
      refine ⟨rfl, ?_, hB⟩
      have := ho.out
      rwa [markTo, List.drop_of_length_le (by rw [HX.out]; omega), List.append_nil] at this

set_option maxHeartbeats 1000000 in
/-- **heldIntS**. -/
theorem heldInt_any (a : Option Addr) (len cap : Nat) (k : Int) (w : World) (h : IsInts w a len cap (marks k len)) (hk0 : 0 ≤ k) (hk : k ≤ 1000000000000) :
    Calls Try.prog 41 #[.slice a len cap, .int .i64 k] w fun e w' => e = .returned (.int .i64 (k + (len : Int))) ∧ w = w' := by
  have hm := h.2.2.1
  have H4 := Lib.hid h.2.2.2; clear h
  go_enter Try.func41, Try.ntmps41
  go_wp2
  go_loop [1, 5] (fun q i => ∃ j : Nat, j ≤ len ∧ i = .int .i64 j ∧ q = .int .i64 (k + (j : Int))) (fun _ i => len - (intOf i).toNat)
  case atStart => exact ⟨0, Nat.zero_le _, rfl, by simp⟩
  case round =>
    obtain ⟨j, hj, rfl, rfl⟩ := hrel
    by_cases hlt : j < len
    · obtain ⟨b, o, rfl, hb, hc⟩ := H4.out (by omega)
      have hz := hc j hlt
      rw [marks_at k len j hlt] at hz
      clear hc
      have hne : (k + (j : Int) != k + (j : Int)) = false := by simp
      go_wp2
      go_round
      case rel => exact ⟨j + 1, by omega, by go_num, by push_cast; rw [Int.add_assoc]⟩
      case measure => simp [intOf]; omega
    · obtain rfl : j = len := by omega
      go_wp2
      go_ret
      exact ⟨rfl, rfl⟩

end Go.Proofs.Ytafnmongglhlaaa

namespace Go.Proofs.Ytafnmongglhlaaa
open Go.RowKit

theorem Step.of_setCell {w w' : World} {R j : Nat} {v : Value} (h : Step R w w') : Step R w (w'.setCell ⟨R, j, none⟩ v) :=
  ⟨h.os, h.tape, h.output, by have := h.size; simpa [World.setCell] using this, fun k hk hne => (Below.heap_setCell _ _ _ _ (fun e => hne (by rw [e]))).trans (h.block k hk hne)⟩

set_option maxHeartbeats 1000000 in
/-- **markIntS**, at a block of the caller's own: that block alone is written. -/
theorem markInt_step (base g len cap : Nat) (xs : List Value) (k : Int) (w : World) (h : w.ownsRow base 3 1 (.slice (some ⟨g, 0, none⟩) len cap) len xs) (hl : len ≤ 1048600) (hk0 : 0 ≤ k) (hk : k ≤ 4000000000000000000) :
    Calls Try.prog 40 #[.slice (some ⟨g, 0, none⟩) len cap, .int .i64 k] w fun e w' => e = .returned (.int .i64 (k + (len : Int))) ∧ w'.ownsRow base 3 1 (.slice (some ⟨g, 0, none⟩) len cap) len ((marks k len).map (Value.int .i64)) ∧ Step g w w' := by
  have hxl : xs.length = len := by have := h.1; omega
  have HX := Lib.hid hxl; clear hxl
  have HO : Hid (w.ownsRow base 3 1 (.slice (some ⟨g, 0, none⟩) len cap) len (markTo xs k 0)) := by unfold Hid; simpa [markTo, marks] using h
  clear h
  go_enter Try.func40, Try.ntmps40
  go_wp2
  go_loopw [1, 5] (fun q i wr => ∃ j : Nat, j ≤ len ∧ i = .int .i64 j ∧ q = .int .i64 (k + (j : Int)) ∧ Hid (wr.ownsRow base 3 1 (.slice (some ⟨g, 0, none⟩) len cap) len (markTo xs k j)) ∧ Step g w wr) (fun _ i _ => len - (intOf i).toNat)
  case atStart => exact ⟨0, Nat.zero_le _, rfl, by simp, HO, Step.refl _ _⟩
  case round =>
    obtain ⟨j, hj, rfl, rfl, ho, hB⟩ := hrel
    by_cases hlt : j < len
    · have hfz := ho.out.frozenAt j
      have hcg := ho.out.cellAt j (by omega)
      have hlen : j < (markTo xs k j).length := by simp [markTo, marks, HX.out]; omega
      rw [List.getElem?_eq_getElem hlen] at hcg
      obtain ⟨v0, hv0⟩ : ∃ v0, (markTo xs k j)[j] = v0 := ⟨_, rfl⟩
      rw [hv0] at hcg
      clear hv0 hlen
      have HS := Lib.hid (ho.out.stored j (.int .i64 (k + (j : Int))))
      go_wp2
      go_roundw
      case rel => exact ⟨j + 1, by omega, by go_num, by push_cast; rw [Int.add_assoc], by unfold Hid; rw [← markTo_step xs k j (by rw [HX.out]; exact hlt)]; exact HS.out.1, hB.of_setCell⟩
      case measure => simp [intOf]; omega
    · obtain rfl : j = len := by omega
      go_wp2
      go_ret
      refine ⟨rfl, ?_, hB⟩
      have := ho.out
      rwa [markTo, List.drop_of_length_le (by rw [HX.out]; omega), List.append_nil] at this

end Go.Proofs.Ytafnmongglhlaaa

namespace Go.Proofs.Ytafnmongglhlaaa
open Go.RowKit

/-- The first k marks are in range. -/
def rankTo (zs : List Int) (k : Nat) : Bool := (List.range k).all fun i => inB (zs[i]?.getD 0) 0 9
theorem rankTo_succ (zs : List Int) (k : Nat) : rankTo zs (k + 1) = (rankTo zs k && inB (zs[k]?.getD 0) 0 9) := by
  simp [rankTo, List.range_succ]
theorem rankTo_no {zs : List Int} {k n : Nat} (h : rankTo zs (k + 1) = false) (hk : k < n) : rankTo zs n = false := by
  simp only [rankTo, List.all_eq_false, List.mem_range] at h ⊢
  obtain ⟨i, h1, h2⟩ := h
  exact ⟨i, by omega, h2⟩
/-- Marks are those of a form. -/
def rankB (zs : List Int) : Bool := rankTo zs zs.length && inB (zs.length : Int) 1 5
theorem rankB_len {zs : List Int} (h : rankB zs = true) : 1 ≤ zs.length ∧ zs.length ≤ 5 := by
  simp only [rankB, inB, Bool.and_eq_true, decide_eq_true_eq] at h
  omega
theorem rankB_at {zs : List Int} (h : rankB zs = true) (i : Nat) (hi : i < zs.length) : 0 ≤ zs[i]?.getD 0 ∧ zs[i]?.getD 0 ≤ 9 := by
  simp only [rankB, rankTo, inB, Bool.and_eq_true, decide_eq_true_eq, List.all_eq_true, List.mem_range] at h
  exact h.1 i hi

end Go.Proofs.Ytafnmongglhlaaa

namespace Go.Proofs.Ytafnmongglhlaaa

/-- How many readers have read the mark m at place c. -/
def cnt (rs : List (List Int)) (c : Nat) (m : Int) : Nat := rs.countP (fun r => r[c]?.getD 0 == m)
theorem cnt_nil (c : Nat) (m : Int) : cnt [] c m = 0 := rfl
theorem cnt_app (a b : List (List Int)) (c : Nat) (m : Int) : cnt (a ++ b) c m = cnt a c m + cnt b c m := by simp [cnt]
theorem cnt_one (r : List Int) (c : Nat) (m : Int) : cnt [r] c m = if r[c]?.getD 0 = m then 1 else 0 := by simp [cnt, List.countP_cons]
theorem cnt_take (rs : List (List Int)) (c : Nat) (m : Int) (k : Nat) (h : k < rs.length) : cnt (rs.take (k + 1)) c m = cnt (rs.take k) c m + (if (rs[k]?.getD [])[c]?.getD 0 = m then 1 else 0) := by
  rw [List.take_succ_eq_append_getElem h, cnt_app, cnt_one]
  simp [h]
theorem cnt_all (rs : List (List Int)) (c : Nat) (m : Int) : cnt (rs.take rs.length) c m = cnt rs c m := by rw [List.take_length]
theorem cnt_le (rs : List (List Int)) (c : Nat) (m : Int) : cnt rs c m ≤ rs.length := List.countP_le_length
theorem cnt_part (rs : List (List Int)) (c : Nat) (m : Int) (k : Nat) : cnt (rs.take k) c m ≤ cnt rs c m := by
  conv => rhs; rw [← List.take_append_drop k rs]
  rw [cnt_app]; omega
theorem cnt_two (rs : List (List Int)) (c : Nat) {m m' : Int} (h : m ≠ m') : cnt rs c m + cnt rs c m' ≤ rs.length := by
  induction rs with
  | nil => simp [cnt]
  | cons r t ih =>
    have e1 := cnt_app [r] t c m
    have e2 := cnt_app [r] t c m'
    rw [List.singleton_append] at e1 e2
    rw [e1, e2, cnt_one, cnt_one, List.length_cons]
    split <;> split <;> omega

/-- The greatest of the marks 0 .. k-1 that more than half of all readers have read, or -1. -/
def bestTo (rs : List (List Int)) (c : Nat) : Nat → Int
  | 0 => -1
  | k + 1 => if rs.length < 2 * cnt rs c (k : Int) then (k : Int) else bestTo rs c k
theorem bestTo_low (rs : List (List Int)) (c : Nat) : ∀ k : Nat, (∀ j : Nat, j < k → ¬ rs.length < 2 * cnt rs c (j : Int)) → bestTo rs c k = -1
  | 0, _ => rfl
  | k + 1, h => by rw [bestTo, if_neg (h k (by omega))]; exact bestTo_low rs c k (fun j hj => h j (by omega))
theorem bestTo_of (rs : List (List Int)) (c m : Nat) (h : rs.length < 2 * cnt rs c (m : Int)) : ∀ k, m < k → bestTo rs c k = (m : Int)
  | 0, h0 => by omega
  | k + 1, hk => by
    by_cases e : m = k
    · subst e; rw [bestTo, if_pos h]
    · have h2 := cnt_two rs c (m := (m : Int)) (m' := (k : Int)) (by omega)
      rw [bestTo, if_neg (by omega)]
      exact bestTo_of rs c m h k (by omega)
theorem bestTo_range (rs : List (List Int)) (c : Nat) : ∀ k, bestTo rs c k = -1 ∨ ∃ m : Nat, m < k ∧ bestTo rs c k = (m : Int) ∧ rs.length < 2 * cnt rs c (m : Int)
  | 0 => .inl rfl
  | k + 1 => by
    by_cases h : rs.length < 2 * cnt rs c (k : Int)
    · exact .inr ⟨k, by omega, by rw [bestTo, if_pos h], h⟩
    · rw [bestTo, if_neg h]
      rcases bestTo_range rs c k with e | ⟨m, hm, e, h2⟩
      · exact .inl e
      · exact .inr ⟨m, by omega, e, h2⟩
/-- The mark on which more than half of all readers agree at place c, or -1. -/
def bestB (rs : List (List Int)) (c : Nat) : Int := bestTo rs c 10
theorem bestB_range (rs : List (List Int)) (c : Nat) : bestB rs c = -1 ∨ ∃ m : Nat, m < 10 ∧ bestB rs c = (m : Int) ∧ rs.length < 2 * cnt rs c (m : Int) := bestTo_range rs c 10
theorem bestB_of {rs : List (List Int)} {c m : Nat} (hm : m < 10) (h : rs.length < 2 * cnt rs c (m : Int)) : bestB rs c = (m : Int) := bestTo_of rs c m h 10 hm
theorem bestB_none {rs : List (List Int)} {c : Nat} (h : ∀ m : Nat, m < 10 → ¬ rs.length < 2 * cnt rs c (m : Int)) : bestB rs c = -1 := bestTo_low rs c 10 h

/-- The first row. -/
def headL (rs : List (List Int)) : List Int := rs[0]?.getD []
def rowOk (rs : List (List Int)) (r : List Int) : Bool := rankB r && ((r.length : Int) == ((headL rs).length : Int))
def readTo (rs : List (List Int)) (k : Nat) : Bool := (List.range k).all fun i => rowOk rs (rs[i]?.getD [])
theorem readTo_succ (rs : List (List Int)) (k : Nat) : readTo rs (k + 1) = (readTo rs k && rowOk rs (rs[k]?.getD [])) := by simp [readTo, List.range_succ]
theorem readTo_no {rs : List (List Int)} {k n : Nat} (h : readTo rs (k + 1) = false) (hk : k < n) : readTo rs n = false := by
  simp only [readTo, List.all_eq_false, List.mem_range] at h ⊢
  obtain ⟨i, h1, h2⟩ := h
  exact ⟨i, by omega, h2⟩
/-- Readers are valid. -/
def readB (rs : List (List Int)) : Bool := readTo rs rs.length && inB (rs.length : Int) 1 5
theorem readB_iff (rs : List (List Int)) : readB rs = true ↔ (1 ≤ rs.length ∧ rs.length ≤ 5) ∧ (∀ r ∈ rs, rankB r = true) ∧ ∀ r ∈ rs, ∀ q ∈ rs, r.length = q.length := by
  simp only [readB, readTo, rowOk, inB, Bool.and_eq_true, List.all_eq_true, List.mem_range, decide_eq_true_eq, beq_iff_eq]
  constructor
  · rintro ⟨h, h1⟩
    have hall : ∀ r ∈ rs, rankB r = true ∧ r.length = (headL rs).length := by
      intro r hr
      obtain ⟨i, hi, rfl⟩ := List.mem_iff_getElem.1 hr
      have := h i hi
      simp only [hi, List.getElem?_eq_getElem, Option.getD_some] at this
      exact ⟨this.1, by omega⟩
    exact ⟨by omega, fun r hr => (hall r hr).1, fun r hr q hq => (hall r hr).2.trans (hall q hq).2.symm⟩
  · rintro ⟨h1, h2, h3⟩
    refine ⟨fun i hi => ?_, by omega⟩
    have e : rs[i]?.getD [] = rs[i] := by simp [hi]
    have e0 : headL rs = rs[0] := by simp [headL, show 0 < rs.length from by omega]
    rw [e, e0]
    exact ⟨h2 _ (List.getElem_mem hi), by rw [h3 _ (List.getElem_mem hi) _ (List.getElem_mem (show 0 < rs.length by omega))]⟩
theorem readB_len {rs : List (List Int)} (h : readB rs = true) : 1 ≤ rs.length ∧ rs.length ≤ 5 := ((readB_iff rs).1 h).1
theorem readB_row {rs : List (List Int)} (h : readB rs = true) (i : Nat) (hi : i < rs.length) : rankB (rs[i]?.getD []) = true ∧ (rs[i]?.getD []).length = (headL rs).length := by
  obtain ⟨h1, h2, h3⟩ := (readB_iff rs).1 h
  have e : rs[i]?.getD [] = rs[i] := by simp [hi]
  have e0 : headL rs = rs[0] := by simp [headL, show 0 < rs.length from by omega]
  rw [e, e0]
  exact ⟨h2 _ (List.getElem_mem hi), h3 _ (List.getElem_mem hi) _ (List.getElem_mem _)⟩
theorem readB_head {rs : List (List Int)} (h : readB rs = true) : 1 ≤ (headL rs).length ∧ (headL rs).length ≤ 5 := by
  have h1 := readB_len h
  have := readB_row h 0 (by omega)
  exact rankB_len this.1

/-- The marks at all places. -/
def bests (rs : List (List Int)) : List Int := (List.range (headL rs).length).map fun c => bestB rs c
theorem bests_length (rs : List (List Int)) : (bests rs).length = (headL rs).length := by simp [bests]
theorem bests_at (rs : List (List Int)) (c : Nat) (h : c < (headL rs).length) : (bests rs)[c]?.getD 0 = bestB rs c := by simp [bests, h]
/-- There is such a mark at each of the first k places. -/
def haveTo (rs : List (List Int)) (k : Nat) : Bool := (List.range k).all fun c => decide (0 ≤ bestB rs c)
theorem haveTo_succ (rs : List (List Int)) (k : Nat) : haveTo rs (k + 1) = (haveTo rs k && decide (0 ≤ bestB rs k)) := by simp [haveTo, List.range_succ]
theorem haveTo_no {rs : List (List Int)} {k n : Nat} (h : haveTo rs (k + 1) = false) (hk : k < n) : haveTo rs n = false := by
  simp only [haveTo, List.all_eq_false, List.mem_range] at h ⊢
  obtain ⟨i, h1, h2⟩ := h
  exact ⟨i, by omega, h2⟩
/-- All readers agree on all marks. -/
def agreeB (rs : List (List Int)) : Bool := readB rs && haveTo rs (headL rs).length
/-- What MarksAgree returns. -/
def agreeL (rs : List (List Int)) : List Int := if agreeB rs = true then bests rs else []
theorem agreeB_no {rs : List (List Int)} (h : readB rs = false) : agreeB rs = false := by simp [agreeB, h]
theorem agreeB_out {rs : List (List Int)} (h : haveTo rs (headL rs).length = false) : agreeB rs = false := by simp [agreeB, h]
theorem agreeB_yes {rs : List (List Int)} (h : readB rs = true) (h2 : haveTo rs (headL rs).length = true) : agreeB rs = true := by simp [agreeB, h, h2]
theorem agreeL_no {rs : List (List Int)} (h : agreeB rs = false) : agreeL rs = [] := by simp [agreeL, h]
theorem agreeL_yes {rs : List (List Int)} (h : agreeB rs = true) : agreeL rs = bests rs := by simp [agreeL, h]
theorem agreeB_both {rs : List (List Int)} (h : agreeB rs = true) : readB rs = true ∧ haveTo rs (headL rs).length = true := by simpa [agreeB] using h
theorem agreeL_short (rs : List (List Int)) : (agreeL rs).length ≤ 5 := by
  cases h : agreeB rs
  · simp [agreeL_no h]
  · rw [agreeL_yes h, bests_length]
    exact (readB_head (agreeB_both h).1).2
theorem have_at {rs : List (List Int)} (h : agreeB rs = true) (c : Nat) (hc : c < (headL rs).length) : ∃ m : Nat, m < 10 ∧ bestB rs c = (m : Int) ∧ rs.length < 2 * cnt rs c (m : Int) := by
  have h2 := (agreeB_both h).2
  simp only [haveTo, List.all_eq_true, List.mem_range, decide_eq_true_eq] at h2
  have h3 := h2 c hc
  rcases bestB_range rs c with e | h4
  · omega
  · exact h4
/-- What is agreed on are marks of a form. -/
theorem agreed_rank {rs : List (List Int)} (h : agreeB rs = true) : rankB (agreeL rs) = true := by
  have hh := readB_head (agreeB_both h).1
  rw [agreeL_yes h]
  simp only [rankB, rankTo, Bool.and_eq_true, List.all_eq_true, List.mem_range, inB, decide_eq_true_eq, bests_length]
  refine ⟨fun i hi => ?_, by omega⟩
  rw [bests_at rs i hi]
  obtain ⟨m, hm, e, _⟩ := have_at h i hi
  omega
/-- Readers who are all alike. -/
theorem agree_same {r : List Int} (hr : rankB r = true) (n : Nat) (h1 : 1 ≤ n) (h5 : n ≤ 5) : agreeB (List.replicate n r) = true ∧ agreeL (List.replicate n r) = r := by
  have hlen := rankB_len hr
  have hhead : headL (List.replicate n r) = r := by simp [headL, show 0 < n from h1]
  have hread : readB (List.replicate n r) = true := by
    rw [readB_iff]
    refine ⟨by simp; omega, fun q hq => ?_, fun q hq p hp => ?_⟩
    · rw [List.eq_of_mem_replicate hq]; exact hr
    · rw [List.eq_of_mem_replicate hq, List.eq_of_mem_replicate hp]
  have hb : ∀ c, c < r.length → bestB (List.replicate n r) c = r[c]?.getD 0 := by
    intro c hc
    have hat := rankB_at hr c hc
    obtain ⟨m, hm⟩ := Int.eq_ofNat_of_zero_le hat.1
    rw [hm]
    refine bestB_of (by omega) ?_
    have : cnt (List.replicate n r) c (m : Int) = n := by
      unfold cnt
      rw [List.countP_replicate]
      simp [hm]
    rw [this, List.length_replicate]; omega
  have hB : bests (List.replicate n r) = r := by
    apply List.ext_getElem
    · rw [bests_length, hhead]
    · intro i h1 h2
      simp only [bests, List.getElem_map, List.getElem_range]
      rw [hb i h2]; simp [h2]
  have hA : agreeB (List.replicate n r) = true := by
    refine agreeB_yes hread ?_
    simp only [haveTo, List.all_eq_true, List.mem_range, decide_eq_true_eq, hhead]
    intro c hc
    rw [hb c hc]
    exact (rankB_at hr c hc).1
  exact ⟨hA, by rw [agreeL_yes hA, hB]⟩

/-- The first reader as the last one. -/
def turnL (rs : List (List Int)) : List (List Int) := rs.drop 1 ++ [headL rs]
theorem turn_perm {rs : List (List Int)} (h : 0 < rs.length) : List.Perm (turnL rs) rs := by
  cases rs with
  | nil => simp at h
  | cons r t => simp [turnL, headL]
theorem readB_turn {rs : List (List Int)} (h : 0 < rs.length) : readB (turnL rs) = readB rs := by
  have hp := turn_perm h
  rw [Bool.eq_iff_iff, readB_iff, readB_iff, hp.length_eq]
  simp only [hp.mem_iff]
theorem cnt_turn {rs : List (List Int)} (h : 0 < rs.length) (c : Nat) (m : Int) : cnt (turnL rs) c m = cnt rs c m := (turn_perm h).countP_eq _
theorem bestTo_turn {rs : List (List Int)} (h : 0 < rs.length) (c : Nat) : ∀ k, bestTo (turnL rs) c k = bestTo rs c k
  | 0 => rfl
  | k + 1 => by rw [bestTo, bestTo, cnt_turn h, (turn_perm h).length_eq, bestTo_turn h c k]
theorem agree_turn {rs : List (List Int)} (h : 0 < rs.length) : agreeB (turnL rs) = agreeB rs ∧ agreeL (turnL rs) = agreeL rs := by
  have hb : ∀ c, bestB (turnL rs) c = bestB rs c := fun c => bestTo_turn h c 10
  cases hr : readB rs
  · have hr' : readB (turnL rs) = false := by rw [readB_turn h, hr]
    exact ⟨by rw [agreeB_no hr, agreeB_no hr'], by rw [agreeL_no (agreeB_no hr), agreeL_no (agreeB_no hr')]⟩
  · have hr' : readB (turnL rs) = true := by rw [readB_turn h, hr]
    have hp := turn_perm h
    have hl := (readB_iff rs).1 hr
    have hlen : (headL (turnL rs)).length = (headL rs).length := by
      have e1 : headL (turnL rs) ∈ turnL rs := by
        have : 0 < (turnL rs).length := by rw [hp.length_eq]; exact h
        simp [headL, this]
      have e2 : headL rs ∈ rs := by simp [headL, h]
      exact hl.2.2 _ (hp.mem_iff.1 e1) _ e2
    have hB : bests (turnL rs) = bests rs := by simp only [bests, hlen, hb]
    have hA : agreeB (turnL rs) = agreeB rs := by simp only [agreeB, hr, hr', haveTo, hlen, hb]
    exact ⟨hA, by simp only [agreeL, hA, hB]⟩

end Go.Proofs.Ytafnmongglhlaaa

namespace Go.Proofs.Ytafnmongglhlaaa
open Go.RowKit

/-- The slice value reads as the rows rs. -/
def IsRows (w : World) (a : Option Addr) (len cap : Nat) (rs : List (List Int)) : Prop :=
  rs.length = len ∧ len ≤ cap ∧ len ≤ 1048600 ∧ (0 < len → ∃ b off, a = some ⟨b, off, none⟩ ∧ b < w.heap.size ∧
    ∀ j, j < len → ∃ aj lj cj, w.cell? ⟨b, off + j, none⟩ = some (.slice aj lj cj) ∧ IsInts w aj lj cj (rs[j]?.getD []))

theorem IsRows.below {w w' : World} {a : Option Addr} {len cap : Nat} {rs : List (List Int)} (h : IsRows w a len cap rs) (hb : Below w.heap.size w w') : IsRows w' a len cap rs := by
  obtain ⟨h1, h2, h3, h4⟩ := h
  refine ⟨h1, h2, h3, fun hl => ?_⟩
  obtain ⟨b, off, e, hlt, hc⟩ := h4 hl
  refine ⟨b, off, e, Nat.lt_of_lt_of_le hlt hb.size, fun j hj => ?_⟩
  obtain ⟨aj, lj, cj, hcj, hj2⟩ := hc j hj
  exact ⟨aj, lj, cj, (hb.cell (p := ⟨b, off + j, none⟩) hlt).trans hcj, hj2.below hb⟩
theorem IsRows.dr {w w' : World} {a : Option Addr} {len cap : Nat} {rs : List (List Int)} (h : IsRows w a len cap rs) (hd : Dr w w') : IsRows w' a len cap rs := h.below (hd.below _)

/-- All rows have at least c + 1 ints. -/
def Wide (rs : List (List Int)) (c : Nat) : Prop := ∀ i, i < rs.length → c < (rs[i]?.getD []).length

end Go.Proofs.Ytafnmongglhlaaa

namespace Go.Proofs.Ytafnmongglhlaaa
open Go.RowKit

/-- The first k of len rows (of type R) are made: the j-th is block G j (capacity C j), its n cells (of type E) are F j. -/
structure Tb (E R : TypeId) (w : World) (base : Nat) (a : Option Addr) (len cap k n : Nat) (G C : Nat → Nat) (F : Nat → Nat → Value) : Prop where
  outer : ∃ V, w.ownsRow base R 1 (.slice a len cap) len V ∧ ∀ j, j < k → V[j]? = some (.slice (some ⟨G j, 0, none⟩) n (C j))
  inner : ∀ j, j < k → w.ownsRow base E 1 (.slice (some ⟨G j, 0, none⟩) n (C j)) n ((List.range n).map (F j))
  order : ∀ i j, i < j → j < k → G i < G j

theorem range_cell {n : Nat} (f : Nat → Value) {j : Nat} (h : j < n) : ((List.range n).map f)[j]? = some (f j) := by simp [h]
theorem owns_type {w : World} {base base' n n' c c' g : Nat} {E R : TypeId} {xs ys : List Value} (h : w.ownsRow base E 1 (.slice (some ⟨g, 0, none⟩) n c) n xs) (h' : w.ownsRow base' R 1 (.slice (some ⟨g, 0, none⟩) n' c') n' ys) : E = R := by
  rcases h.2 with ⟨e, _⟩ | ⟨g1, c1, cur1, e1, _, hg1, _⟩
  · simp at e
  · rcases h'.2 with ⟨e, _⟩ | ⟨g2, c2, cur2, e2, _, hg2, _⟩
    · simp at e
    · injection e1 with e1 _ _
      injection e2 with e2 _ _
      injection e1 with e1
      injection e1 with e1 _ _
      injection e2 with e2
      injection e2 with e2 _ _
      subst e1
      subst e2
      rw [hg1] at hg2
      injection hg2 with hg2
      injection hg2 with _ hg2 _

namespace Tb
variable {E R : TypeId} {w w' : World} {base len cap k n : Nat} {a : Option Addr} {G C : Nat → Nat} {F F' : Nat → Nat → Value}

theorem under (h : Tb E R w base a len cap k n G C F) (hb : Below w.heap.size w w') : Tb E R w' base a len cap k n G C F :=
  ⟨by obtain ⟨V, h1, h2⟩ := h.outer; exact ⟨V, owns_under h1 hb, h2⟩, fun j hj => owns_under (h.inner j hj) hb, h.order⟩
theorem lt (h : Tb E R w base a len cap k n G C F) {j : Nat} (hj : j < k) : base ≤ G j ∧ G j < w.heap.size := (h.inner j hj).lt (G j) rfl
theorem congr (h : Tb E R w base a len cap k n G C F) (he : ∀ i j, i < k → j < n → F i j = F' i j) : Tb E R w base a len cap k n G C F' :=
  ⟨h.outer, fun i hi => by
    have e : (List.range n).map (F' i) = (List.range n).map (F i) := List.map_congr_left (fun j hj => (he i j hi (List.mem_range.1 hj)).symm)
    rw [e]; exact h.inner i hi, h.order⟩
theorem mono {base' : Nat} (h : Tb E R w base a len cap k n G C F) (hb : base' ≤ base) : Tb E R w base' a len cap k n G C F :=
  ⟨by obtain ⟨V, h1, h2⟩ := h.outer; exact ⟨V, World.ownsRow.mono h1 hb, h2⟩, fun j hj => World.ownsRow.mono (h.inner j hj) hb, h.order⟩
theorem head (h : Tb E R w base a len cap k n G C F) (hl : 0 < len) : ∃ g, a = some ⟨g, 0, none⟩ ∧ base ≤ g ∧ g < w.heap.size ∧ len ≤ cap := by
  obtain ⟨V, h1, h2⟩ := h.outer
  rcases h1.2 with ⟨_, e⟩ | ⟨g, c, cur, e1, hb, hg, hc, _⟩
  · omega
  · injection e1 with e1 _ e3
    subst e3
    exact ⟨g, e1, hb, (Array.getElem?_eq_some_iff.1 hg).1, hc⟩
theorem row_cell {g : Nat} (h : Tb E R w base (some ⟨g, 0, none⟩) len cap k n G C F) {j : Nat} (hj : j < k) (hk : k ≤ len) : w.cell? ⟨g, j, none⟩ = some (.slice (some ⟨G j, 0, none⟩) n (C j)) := by
  obtain ⟨V, h1, h2⟩ := h.outer
  rw [h1.cellAt j (by omega)]; exact h2 j hj
theorem cell (h : Tb E R w base a len cap k n G C F) {x y : Nat} (hx : x < k) (hy : y < n) : w.cell? ⟨G x, y, none⟩ = some (F x y) := by
  rw [(h.inner x hx).cellAt y (by omega)]; exact range_cell _ hy
theorem frozen (h : Tb E R w base a len cap k n G C F) {x : Nat} (hx : x < k) (y : Nat) : w.frozen? ⟨G x, y, none⟩ = false := (h.inner x hx).frozenAt y
theorem ne (h : Tb E R w base a len cap k n G C F) {i j : Nat} (hi : i < k) (hj : j < k) (hne : i ≠ j) : G i ≠ G j := by
  rcases Nat.lt_or_gt_of_ne hne with g | g
  · have := h.order i j g hj; omega
  · have := h.order j i g hi; omega
theorem out_ne {g : Nat} (hER : E ≠ R) (h : Tb E R w base (some ⟨g, 0, none⟩) len cap k n G C F) {j : Nat} (hj : j < k) : G j ≠ g := by
  intro e
  obtain ⟨V, h1, h2⟩ := h.outer
  have h3 := h.inner j hj
  rw [e] at h3
  exact hER (owns_type h3 h1)

/-- A cell of a row is written. -/
theorem set (hER : E ≠ R) (h : Tb E R w base a len cap k n G C F) {x y : Nat} (hx : x < k) (hy : y < n) (v : Value) :
    Tb E R (w.setCell ⟨G x, y, none⟩ v) base a len cap k n G C (fun i j => if i = x ∧ j = y then v else F i j) ∧ w.grownBy (w.setCell ⟨G x, y, none⟩ v) (some (G x)) := by
  have hs := (h.inner x hx).stored y v
  refine ⟨⟨?_, fun j hj => ?_, h.order⟩, hs.2⟩
  · obtain ⟨V, h1, h2⟩ := h.outer
    refine ⟨V, h1.kept hs.2 ?_, h2⟩
    cases hb : (Value.slice a len cap).ownBlock with
    | none => exact .inl rfl
    | some b =>
      right
      intro e
      injection e with e
      cases a with
      | none => simp [Value.ownBlock] at hb
      | some ad =>
        have h0 := h1
        rcases h0.2 with ⟨e0, _⟩ | ⟨g, c, cur, e1, _, hg, _⟩
        · simp at e0
        · injection e1 with e1 _ _
          injection e1 with e1
          subst e1
          simp [Value.ownBlock] at hb
          exact out_ne hER h hx (by omega)
  · by_cases e : j = x
    · subst e
      have e2 : (List.range n).map (fun y' => if j = j ∧ y' = y then v else F j y') = ((List.range n).map (F j)).set y v := by
        apply List.ext_getElem
        · simp
        · intro i h1 h2
          simp only [List.getElem_map, List.getElem_range, List.getElem_set, true_and]
          by_cases e3 : i = y
          · subst e3; simp
          · rw [if_neg e3, if_neg (fun e4 => e3 e4.symm)]
      rw [e2]; exact hs.1
    · have e2 : (List.range n).map (fun y' => if j = x ∧ y' = y then v else F j y') = (List.range n).map (F j) := by
        refine List.map_congr_left (fun i _ => ?_)
        rw [if_neg (fun g => e g.1)]
      rw [e2]
      exact (h.inner j hj).kept hs.2 (.inr (by simp [Value.ownBlock]; exact h.ne hj hx e))

/-- A new row is stored. -/
theorem store {g g2 c2 : Nat} {f : Nat → Value} (hER : E ≠ R) (h : Tb E R w base (some ⟨g, 0, none⟩) len cap k n G C F) (hk : k < len) (hx : w.ownsRow base E 1 (.slice (some ⟨g2, 0, none⟩) n c2) n ((List.range n).map f)) (hlast : ∀ j, j < k → G j < g2) :
    Tb E R (w.setCell ⟨g, k, none⟩ (.slice (some ⟨g2, 0, none⟩) n c2)) base (some ⟨g, 0, none⟩) len cap (k + 1) n (fun j => if j = k then g2 else G j) (fun j => if j = k then c2 else C j) (fun j => if j = k then f else F j) := by
  obtain ⟨V, h1, h2⟩ := h.outer
  have hs := h1.stored k (.slice (some ⟨g2, 0, none⟩) n c2)
  have hV : V.length = len := by have := h1.1; omega
  have hg2 : g2 ≠ g := fun e => by subst e; exact hER (owns_type hx h1)
  refine ⟨⟨_, hs.1, fun j hj => ?_⟩, fun j hj => ?_, fun i j hij hj => ?_⟩
  · by_cases e : j = k
    · subst e; simp only [if_true]; rw [List.getElem?_set_self (by omega)]
    · simp only [if_neg e]; rw [List.getElem?_set_ne (by omega)]; exact h2 j (by omega)
  · by_cases e : j = k
    · subst e; simp only [if_true]; exact hx.kept hs.2 (.inr (by simp [Value.ownBlock]; exact hg2))
    · simp only [if_neg e]; exact (h.inner j (by omega)).kept hs.2 (.inr (by simp [Value.ownBlock]; exact out_ne hER h (by omega)))
  · by_cases e : j = k
    · subst e
      have e2 : ¬ i = j := by omega
      simp only [if_neg e2, if_true]
      exact hlast i hij
    · have e2 : ¬ i = k := by omega
      simp only [if_neg e2, if_neg e]
      exact h.order i j hij (by omega)

/-- A new row is appended. -/
theorem push {a' : Option Addr} {cap' g2 c2 : Nat} {f : Nat → Value} {V : List Value} (hER : E ≠ R) (h : Tb E R w base a k cap k n G C F) (h1 : w.ownsRow base R 1 (.slice a k cap) k V) (h2 : ∀ j, j < k → V[j]? = some (.slice (some ⟨G j, 0, none⟩) n (C j)))
    (hx : w.ownsRow base E 1 (.slice (some ⟨g2, 0, none⟩) n c2) n ((List.range n).map f)) (hlast : ∀ j, j < k → G j < g2)
    (ho : w'.ownsRow base R 1 (.slice a' (k + 1) cap') (k + 1) (V ++ [.slice (some ⟨g2, 0, none⟩) n c2])) (hg : w.grownBy w' (Value.slice a k cap).ownBlock) :
    Tb E R w' base a' (k + 1) cap' (k + 1) n (fun j => if j = k then g2 else G j) (fun j => if j = k then c2 else C j) (fun j => if j = k then f else F j) := by
  have hV : V.length = k := by have := h1.1; omega
  have hown : ∀ gj cj f', w.ownsRow base E 1 (.slice (some ⟨gj, 0, none⟩) n cj) n ((List.range n).map f') → w'.ownsRow base E 1 (.slice (some ⟨gj, 0, none⟩) n cj) n ((List.range n).map f') := by
    intro gj cj f' h3
    refine h3.kept hg ?_
    right
    intro e
    cases a with
    | none => simp [Value.ownBlock] at e
    | some ad =>
      rcases h1.2 with ⟨e0, _⟩ | ⟨g, c, cur, e1, _, hg', _⟩
      · simp at e0
      · injection e1 with e1 _ _
        injection e1 with e1
        subst e1
        simp [Value.ownBlock] at e
        subst e
        exact hER (owns_type h3 h1)
  refine ⟨⟨_, ho, fun j hj => ?_⟩, fun j hj => ?_, fun i j hij hj => ?_⟩
  · by_cases e : j = k
    · subst e; simp only [if_true]; rw [List.getElem?_append_right (by omega), hV, Nat.sub_self]; rfl
    · simp only [if_neg e]; rw [List.getElem?_append_left (by omega)]; exact h2 j (by omega)
  · by_cases e : j = k
    · subst e; simp only [if_true]; exact hown _ _ _ hx
    · simp only [if_neg e]; exact hown _ _ _ (h.inner j (by omega))
  · by_cases e : j = k
    · subst e
      have e2 : ¬ i = j := by omega
      simp only [if_neg e2, if_true]
      exact hlast i hij
    · have e2 : ¬ i = k := by omega
      simp only [if_neg e2, if_neg e]
      exact h.order i j hij (by omega)
/-- No row yet. -/
theorem start {V : List Value} (h : w.ownsRow base R 1 (.slice a len cap) len V) : Tb E R w base a len cap 0 n G C F :=
  ⟨⟨V, h, fun j hj => by omega⟩, fun j hj => by omega, fun i j _ hj => by omega⟩
end Tb

/-- The rows of a table. -/
def tabL {α : Type} (n : Nat) (f : Nat → Nat → α) : List (List α) := (List.range n).map fun x => (List.range n).map (f x)
theorem tabL_length {α : Type} (n : Nat) (f : Nat → Nat → α) : (tabL n f).length = n := by simp [tabL]
theorem tabL_row {α : Type} (n : Nat) (f : Nat → Nat → α) {x : Nat} (hx : x < n) : (tabL n f)[x]?.getD [] = (List.range n).map (f x) := by simp [tabL, hx]
theorem tabL_congr {α : Type} {n : Nat} {f f' : Nat → Nat → α} (h : ∀ x y, x < n → y < n → f x y = f' x y) : tabL n f = tabL n f' :=
  List.map_congr_left fun x hx => List.map_congr_left fun y hy => h x y (List.mem_range.1 hx) (List.mem_range.1 hy)

/-- What reads as a table of ints. -/
def IsTab (w : World) (a : Option Addr) (len cap n : Nat) (f : Nat → Nat → Int) : Prop := IsRows w a len cap (tabL n f)
theorem Tb.isRows {E R : TypeId} {w : World} {base cap n : Nat} {a : Option Addr} {G C : Nat → Nat} {F : Nat → Nat → Value} {f : Nat → Nat → Int} (h : Tb E R w base a n cap n n G C F) (hn : n ≤ 1048600) (hF : ∀ i j, i < n → j < n → F i j = .int .i64 (f i j)) : IsRows w a n cap (tabL n f) := by
  refine ⟨tabL_length n f, ?_, hn, fun hl => ?_⟩
  · rcases Nat.eq_zero_or_pos n with e | e
    · omega
    · obtain ⟨g, _, _, _, h4⟩ := h.head e; exact h4
  obtain ⟨g, rfl, hb, hg, hc⟩ := h.head hl
  refine ⟨g, 0, rfl, hg, fun j hj => ⟨some ⟨G j, 0, none⟩, n, C j, by rw [Nat.zero_add]; exact h.row_cell hj (Nat.le_refl _), ?_⟩⟩
  rw [tabL_row n f hj]
  have hin := h.inner j hj
  refine ⟨by simp, ?_, hn, fun _ => ⟨G j, 0, rfl, (h.lt hj).2, fun i hi => ?_⟩⟩
  · rcases hin.2 with ⟨e0, _⟩ | ⟨g', c', cur, e1, _, _, h3, _⟩
    · simp at e0
    · injection e1 with _ _ e3; omega
  · rw [Nat.zero_add, h.cell hj hi, hF j i hj hi]; simp [hi]

end Go.Proofs.Ytafnmongglhlaaa

namespace Go.Proofs.Ytafnmongglhlaaa
open Go.RowKit

theorem eqIntS_self (a : Option Addr) (len cap : Nat) (zs : List Int) (b : Option Addr) (cap' : Nat) (w : World) (h : IsInts w a len cap zs) (h' : IsInts w b len cap' zs) :
    Calls Try.prog 37 #[.slice a len cap, .slice b len cap'] w fun e w' => e = .returned (.bool true) ∧ Dr w w' :=
  (eqIntS_any a len cap zs b len cap' zs w h h').mono fun e w' ⟨he, hd⟩ => ⟨by rw [he, eqB_self], hd⟩
/-- A row is written anew. -/
theorem Tb.anew {E R : TypeId} {w w' : World} {base len cap k n : Nat} {a : Option Addr} {G C : Nat → Nat} {F : Nat → Nat → Value} (hER : E ≠ R) (h : Tb E R w base a len cap k n G C F) {x : Nat} (hx : x < k) {f : Nat → Value} (hs : w.grownBy w' (some (G x)))
    (hr : w'.ownsRow base E 1 (.slice (some ⟨G x, 0, none⟩) n (C x)) n ((List.range n).map f)) : Tb E R w' base a len cap k n G C (fun i j => if i = x then f j else F i j) := by
  refine ⟨?_, fun j hj => ?_, h.order⟩
  · obtain ⟨V, h1, h2⟩ := h.outer
    refine ⟨V, h1.kept hs ?_, h2⟩
    cases hb : (Value.slice a len cap).ownBlock with
    | none => exact .inl rfl
    | some b =>
      right
      intro e
      injection e with e
      cases a with
      | none => simp [Value.ownBlock] at hb
      | some ad =>
        have h0 := h1
        rcases h0.2 with ⟨e0, _⟩ | ⟨g, c, cur, e1, _, hg, _⟩
        · simp at e0
        · injection e1 with e1 _ _
          injection e1 with e1
          subst e1
          simp [Value.ownBlock] at hb
          exact Tb.out_ne hER h hx (by omega)
  · by_cases e : j = x
    · subst e
      have e2 : (List.range n).map (fun y => if j = j then f y else F j y) = (List.range n).map f := List.map_congr_left (fun i _ => by rw [if_pos rfl])
      rw [e2]; exact hr
    · have e2 : (List.range n).map (fun y => if j = x then f y else F j y) = (List.range n).map (F j) := List.map_congr_left (fun i _ => by rw [if_neg e])
      rw [e2]
      exact (h.inner j hj).kept hs (.inr (by simp [Value.ownBlock]; exact h.ne hj hx e))

/-- The marks of the rows before x. -/
def markF (F : Nat → Nat → Value) (n x : Nat) : Nat → Nat → Value := fun i j => if i < x then .int .i64 (1 + (n : Int) * (i : Int) + (j : Int)) else F i j
theorem marks_row (n : Nat) (k : Int) : (marks k n).map (Value.int .i64) = (List.range n).map (fun (j : Nat) => Value.int .i64 (k + (j : Int))) := by
  unfold marks; rw [List.map_map]; rfl
theorem mul_step (n k : Nat) : (n : Int) * ((k : Int) + 1) = (n : Int) * (k : Int) + (n : Int) := by rw [Int.mul_add, Int.mul_one]
theorem mul_five {n k : Nat} (hn : n ≤ 5) (hk : k ≤ n) : 0 ≤ (n : Int) * (k : Int) ∧ (n : Int) * (k : Int) ≤ 25 := by
  have h : n * k ≤ 5 * 5 := Nat.mul_le_mul hn (by omega)
  constructor
  · exact Int.mul_nonneg (by omega) (by omega)
  · have : ((n * k : Nat) : Int) ≤ 25 := by omega
    rwa [Int.natCast_mul] at this

end Go.Proofs.Ytafnmongglhlaaa
