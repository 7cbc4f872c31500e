/-
  The marks on which more than half of all readers agree, as a list. Of no memory.
-/
import Derived.Test.YtpgnneaaemfkoaaMarks
namespace Go.Proofs.Ytpgnneaaemfkoaa

/-- How many readers have read the mark m at place c. -/
def cnt (rs : List (List Int)) (c : Nat) (m : Int) : Nat := rs.countP (fun r => r[c]?.getD 0 == m)
theorem cnt_nil (c : Nat) (m : Int) : cnt [] c m = 0 := rfl
theorem cnt_app (a b : List (List Int)) (c : Nat) (m : Int) : cnt (a ++ b) c m = cnt a c m + cnt b c m := by simp [cnt]
theorem cnt_one (r : List Int) (c : Nat) (m : Int) : cnt [r] c m = if r[c]?.getD 0 = m then 1 else 0 := by simp [cnt, List.countP_cons]
theorem cnt_take (rs : List (List Int)) (c : Nat) (m : Int) (k : Nat) (h : k < rs.length) : cnt (rs.take (k + 1)) c m = cnt (rs.take k) c m + (if (rs[k]?.getD [])[c]?.getD 0 = m then 1 else 0) := by
  rw [List.take_succ_eq_append_getElem h, cnt_app, cnt_one]
  simp [h]
theorem cnt_all (rs : List (List Int)) (c : Nat) (m : Int) : cnt (rs.take rs.length) c m = cnt rs c m := by rw [List.take_length]
theorem cnt_le (rs : List (List Int)) (c : Nat) (m : Int) : cnt rs c m ≤ rs.length := List.countP_le_length
theorem cnt_part (rs : List (List Int)) (c : Nat) (m : Int) (k : Nat) : cnt (rs.take k) c m ≤ cnt rs c m := by
  conv => rhs; rw [← List.take_append_drop k rs]
  rw [cnt_app]; omega
theorem cnt_two (rs : List (List Int)) (c : Nat) {m m' : Int} (h : m ≠ m') : cnt rs c m + cnt rs c m' ≤ rs.length := by
  induction rs with
  | nil => simp [cnt]
  | cons r t ih =>
    have e1 := cnt_app [r] t c m
    have e2 := cnt_app [r] t c m'
    rw [List.singleton_append] at e1 e2
    rw [e1, e2, cnt_one, cnt_one, List.length_cons]
    split <;> split <;> omega

/-- The greatest of the marks 0 .. k-1 that more than half of all readers have read, or -1. -/
def bestTo (rs : List (List Int)) (c : Nat) : Nat → Int
  | 0 => -1
  | k + 1 => if rs.length < 2 * cnt rs c (k : Int) then (k : Int) else bestTo rs c k
theorem bestTo_low (rs : List (List Int)) (c : Nat) : ∀ k : Nat, (∀ j : Nat, j < k → ¬ rs.length < 2 * cnt rs c (j : Int)) → bestTo rs c k = -1
  | 0, _ => rfl
  | k + 1, h => by rw [bestTo, if_neg (h k (by omega))]; exact bestTo_low rs c k (fun j hj => h j (by omega))
theorem bestTo_of (rs : List (List Int)) (c m : Nat) (h : rs.length < 2 * cnt rs c (m : Int)) : ∀ k, m < k → bestTo rs c k = (m : Int)
  | 0, h0 => by omega
  | k + 1, hk => by
    by_cases e : m = k
    · subst e; rw [bestTo, if_pos h]
    · have h2 := cnt_two rs c (m := (m : Int)) (m' := (k : Int)) (by omega)
      rw [bestTo, if_neg (by omega)]
      exact bestTo_of rs c m h k (by omega)
theorem bestTo_range (rs : List (List Int)) (c : Nat) : ∀ k, bestTo rs c k = -1 ∨ ∃ m : Nat, m < k ∧ bestTo rs c k = (m : Int) ∧ rs.length < 2 * cnt rs c (m : Int)
  | 0 => .inl rfl
  | k + 1 => by
    by_cases h : rs.length < 2 * cnt rs c (k : Int)
    · exact .inr ⟨k, by omega, by rw [bestTo, if_pos h], h⟩
    · rw [bestTo, if_neg h]
      rcases bestTo_range rs c k with e | ⟨m, hm, e, h2⟩
      · exact .inl e
      · exact .inr ⟨m, by omega, e, h2⟩
/-- The mark on which more than half of all readers agree at place c, or -1. -/
def bestB (rs : List (List Int)) (c : Nat) : Int := bestTo rs c 10
theorem bestB_range (rs : List (List Int)) (c : Nat) : bestB rs c = -1 ∨ ∃ m : Nat, m < 10 ∧ bestB rs c = (m : Int) ∧ rs.length < 2 * cnt rs c (m : Int) := bestTo_range rs c 10
theorem bestB_of {rs : List (List Int)} {c m : Nat} (hm : m < 10) (h : rs.length < 2 * cnt rs c (m : Int)) : bestB rs c = (m : Int) := bestTo_of rs c m h 10 hm
theorem bestB_none {rs : List (List Int)} {c : Nat} (h : ∀ m : Nat, m < 10 → ¬ rs.length < 2 * cnt rs c (m : Int)) : bestB rs c = -1 := bestTo_low rs c 10 h

/-- The first row. -/
def headL (rs : List (List Int)) : List Int := rs[0]?.getD []
def rowOk (rs : List (List Int)) (r : List Int) : Bool := rankB r && ((r.length : Int) == ((headL rs).length : Int))
def readTo (rs : List (List Int)) (k : Nat) : Bool := (List.range k).all fun i => rowOk rs (rs[i]?.getD [])
theorem readTo_succ (rs : List (List Int)) (k : Nat) : readTo rs (k + 1) = (readTo rs k && rowOk rs (rs[k]?.getD [])) := by simp [readTo, List.range_succ]
theorem readTo_no {rs : List (List Int)} {k n : Nat} (h : readTo rs (k + 1) = false) (hk : k < n) : readTo rs n = false := by
  simp only [readTo, List.all_eq_false, List.mem_range] at h ⊢
  obtain ⟨i, h1, h2⟩ := h
  exact ⟨i, by omega, h2⟩
/-- Readers are valid. -/
def readB (rs : List (List Int)) : Bool := readTo rs rs.length && inB (rs.length : Int) 1 5
theorem readB_iff (rs : List (List Int)) : readB rs = true ↔ (1 ≤ rs.length ∧ rs.length ≤ 5) ∧ (∀ r ∈ rs, rankB r = true) ∧ ∀ r ∈ rs, ∀ q ∈ rs, r.length = q.length := by
  simp only [readB, readTo, rowOk, inB, Bool.and_eq_true, List.all_eq_true, List.mem_range, decide_eq_true_eq, beq_iff_eq]
  constructor
  · rintro ⟨h, h1⟩
    have hall : ∀ r ∈ rs, rankB r = true ∧ r.length = (headL rs).length := by
      intro r hr
      obtain ⟨i, hi, rfl⟩ := List.mem_iff_getElem.1 hr
      have := h i hi
      simp only [hi, List.getElem?_eq_getElem, Option.getD_some] at this
      exact ⟨this.1, by omega⟩
    exact ⟨by omega, fun r hr => (hall r hr).1, fun r hr q hq => (hall r hr).2.trans (hall q hq).2.symm⟩
  · rintro ⟨h1, h2, h3⟩
    refine ⟨fun i hi => ?_, by omega⟩
    have e : rs[i]?.getD [] = rs[i] := by simp [hi]
    have e0 : headL rs = rs[0] := by simp [headL, show 0 < rs.length from by omega]
    rw [e, e0]
    exact ⟨h2 _ (List.getElem_mem hi), by rw [h3 _ (List.getElem_mem hi) _ (List.getElem_mem (show 0 < rs.length by omega))]⟩
theorem readB_len {rs : List (List Int)} (h : readB rs = true) : 1 ≤ rs.length ∧ rs.length ≤ 5 := ((readB_iff rs).1 h).1
theorem readB_row {rs : List (List Int)} (h : readB rs = true) (i : Nat) (hi : i < rs.length) : rankB (rs[i]?.getD []) = true ∧ (rs[i]?.getD []).length = (headL rs).length := by
  obtain ⟨h1, h2, h3⟩ := (readB_iff rs).1 h
  have e : rs[i]?.getD [] = rs[i] := by simp [hi]
  have e0 : headL rs = rs[0] := by simp [headL, show 0 < rs.length from by omega]
  rw [e, e0]
  exact ⟨h2 _ (List.getElem_mem hi), h3 _ (List.getElem_mem hi) _ (List.getElem_mem _)⟩
theorem readB_head {rs : List (List Int)} (h : readB rs = true) : 1 ≤ (headL rs).length ∧ (headL rs).length ≤ 5 := by
  have h1 := readB_len h
  have := readB_row h 0 (by omega)
  exact rankB_len this.1

/-- The marks at all places. -/
def bests (rs : List (List Int)) : List Int := (List.range (headL rs).length).map fun c => bestB rs c
theorem bests_length (rs : List (List Int)) : (bests rs).length = (headL rs).length := by simp [bests]
theorem bests_at (rs : List (List Int)) (c : Nat) (h : c < (headL rs).length) : (bests rs)[c]?.getD 0 = bestB rs c := by simp [bests, h]
/-- There is such a mark at each of the first k places. -/
def haveTo (rs : List (List Int)) (k : Nat) : Bool := (List.range k).all fun c => decide (0 ≤ bestB rs c)
theorem haveTo_succ (rs : List (List Int)) (k : Nat) : haveTo rs (k + 1) = (haveTo rs k && decide (0 ≤ bestB rs k)) := by simp [haveTo, List.range_succ]
theorem haveTo_no {rs : List (List Int)} {k n : Nat} (h : haveTo rs (k + 1) = false) (hk : k < n) : haveTo rs n = false := by
  simp only [haveTo, List.all_eq_false, List.mem_range] at h ⊢
  obtain ⟨i, h1, h2⟩ := h
  exact ⟨i, by omega, h2⟩
/-- All readers agree on all marks. -/
def agreeB (rs : List (List Int)) : Bool := readB rs && haveTo rs (headL rs).length
/-- What MarksAgree returns. -/
def agreeL (rs : List (List Int)) : List Int := if agreeB rs = true then bests rs else []
theorem agreeB_no {rs : List (List Int)} (h : readB rs = false) : agreeB rs = false := by simp [agreeB, h]
theorem agreeB_out {rs : List (List Int)} (h : haveTo rs (headL rs).length = false) : agreeB rs = false := by simp [agreeB, h]
theorem agreeB_yes {rs : List (List Int)} (h : readB rs = true) (h2 : haveTo rs (headL rs).length = true) : agreeB rs = true := by simp [agreeB, h, h2]
theorem agreeL_no {rs : List (List Int)} (h : agreeB rs = false) : agreeL rs = [] := by simp [agreeL, h]
theorem agreeL_yes {rs : List (List Int)} (h : agreeB rs = true) : agreeL rs = bests rs := by simp [agreeL, h]
theorem agreeB_both {rs : List (List Int)} (h : agreeB rs = true) : readB rs = true ∧ haveTo rs (headL rs).length = true := by simpa [agreeB] using h
theorem agreeL_short (rs : List (List Int)) : (agreeL rs).length ≤ 5 := by
  cases h : agreeB rs
  · simp [agreeL_no h]
  · rw [agreeL_yes h, bests_length]
    exact (readB_head (agreeB_both h).1).2
theorem have_at {rs : List (List Int)} (h : agreeB rs = true) (c : Nat) (hc : c < (headL rs).length) : ∃ m : Nat, m < 10 ∧ bestB rs c = (m : Int) ∧ rs.length < 2 * cnt rs c (m : Int) := by
  have h2 := (agreeB_both h).2
  simp only [haveTo, List.all_eq_true, List.mem_range, decide_eq_true_eq] at h2
  have h3 := h2 c hc
  rcases bestB_range rs c with e | h4
  · omega
  · exact h4
/-- What is agreed on are marks of a form. -/
theorem agreed_rank {rs : List (List Int)} (h : agreeB rs = true) : rankB (agreeL rs) = true := by
  have hh := readB_head (agreeB_both h).1
  rw [agreeL_yes h]
  simp only [rankB, rankTo, Bool.and_eq_true, List.all_eq_true, List.mem_range, inB, decide_eq_true_eq, bests_length]
  refine ⟨fun i hi => ?_, by omega⟩
  rw [bests_at rs i hi]
  obtain ⟨m, hm, e, _⟩ := have_at h i hi
  omega
/-- Readers who are all alike. -/
theorem agree_same {r : List Int} (hr : rankB r = true) (n : Nat) (h1 : 1 ≤ n) (h5 : n ≤ 5) : agreeB (List.replicate n r) = true ∧ agreeL (List.replicate n r) = r := by
  have hlen := rankB_len hr
  have hhead : headL (List.replicate n r) = r := by simp [headL, show 0 < n from h1]
  have hread : readB (List.replicate n r) = true := by
    rw [readB_iff]
    refine ⟨by simp; omega, fun q hq => ?_, fun q hq p hp => ?_⟩
    · rw [List.eq_of_mem_replicate hq]; exact hr
    · rw [List.eq_of_mem_replicate hq, List.eq_of_mem_replicate hp]
  have hb : ∀ c, c < r.length → bestB (List.replicate n r) c = r[c]?.getD 0 := by
    intro c hc
    have hat := rankB_at hr c hc
    obtain ⟨m, hm⟩ := Int.eq_ofNat_of_zero_le hat.1
    rw [hm]
    refine bestB_of (by omega) ?_
    have : cnt (List.replicate n r) c (m : Int) = n := by
      unfold cnt
      rw [List.countP_replicate]
      simp [hm]
    rw [this, List.length_replicate]; omega
  have hB : bests (List.replicate n r) = r := by
    apply List.ext_getElem
    · rw [bests_length, hhead]
    · intro i h1 h2
      simp only [bests, List.getElem_map, List.getElem_range]
      rw [hb i h2]; simp [h2]
  have hA : agreeB (List.replicate n r) = true := by
    refine agreeB_yes hread ?_
    simp only [haveTo, List.all_eq_true, List.mem_range, decide_eq_true_eq, hhead]
    intro c hc
    rw [hb c hc]
    exact (rankB_at hr c hc).1
  exact ⟨hA, by rw [agreeL_yes hA, hB]⟩

/-- The first reader as the last one. -/
def turnL (rs : List (List Int)) : List (List Int) := rs.drop 1 ++ [headL rs]
theorem turn_perm {rs : List (List Int)} (h : 0 < rs.length) : List.Perm (turnL rs) rs := by
  cases rs with
  | nil => simp at h
  | cons r t => simp [turnL, headL]
theorem readB_turn {rs : List (List Int)} (h : 0 < rs.length) : readB (turnL rs) = readB rs := by
  have hp := turn_perm h
  rw [Bool.eq_iff_iff, readB_iff, readB_iff, hp.length_eq]
  simp only [hp.mem_iff]
theorem cnt_turn {rs : List (List Int)} (h : 0 < rs.length) (c : Nat) (m : Int) : cnt (turnL rs) c m = cnt rs c m := (turn_perm h).countP_eq _
theorem bestTo_turn {rs : List (List Int)} (h : 0 < rs.length) (c : Nat) : ∀ k, bestTo (turnL rs) c k = bestTo rs c k
  | 0 => rfl
  | k + 1 => by rw [bestTo, bestTo, cnt_turn h, (turn_perm h).length_eq, bestTo_turn h c k]
theorem agree_turn {rs : List (List Int)} (h : 0 < rs.length) : agreeB (turnL rs) = agreeB rs ∧ agreeL (turnL rs) = agreeL rs := by
  have hb : ∀ c, bestB (turnL rs) c = bestB rs c := fun c => bestTo_turn h c 10
  cases hr : readB rs
  · have hr' : readB (turnL rs) = false := by rw [readB_turn h, hr]
    exact ⟨by rw [agreeB_no hr, agreeB_no hr'], by rw [agreeL_no (agreeB_no hr), agreeL_no (agreeB_no hr')]⟩
  · have hr' : readB (turnL rs) = true := by rw [readB_turn h, hr]
    have hp := turn_perm h
    have hl := (readB_iff rs).1 hr
    have hlen : (headL (turnL rs)).length = (headL rs).length := by
      have e1 : headL (turnL rs) ∈ turnL rs := by
        have : 0 < (turnL rs).length := by rw [hp.length_eq]; exact h
        simp [headL, this]
      have e2 : headL rs ∈ rs := by simp [headL, h]
      exact hl.2.2 _ (hp.mem_iff.1 e1) _ e2
    have hB : bests (turnL rs) = bests rs := by simp only [bests, hlen, hb]
    have hA : agreeB (turnL rs) = agreeB rs := by simp only [agreeB, hr, hr', haveTo, hlen, hb]
    exact ⟨hA, by simp only [agreeL, hA, hB]⟩

end Go.Proofs.Ytpgnneaaemfkoaa
