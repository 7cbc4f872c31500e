/-
  Numbers in decimals, and the texts of fractions. Of no memory.
-/
import Derived.Test.YtoancpdiilofmaaDoorFracQ
import Derived.Lib.ItoaNum
namespace Go.Proofs.YtoancpdiilofmaaDoor

/-- A number in decimals. -/
def decB (n : Nat) : ByteArray := ⟨(Lib.decDigits n).toArray⟩
theorem decB_small {n : Nat} (h : n < 10) : decB n = ⟨#[UInt8.ofNat (48 + n)]⟩ := by
  unfold decB; rw [Lib.decDigits_one h]
theorem decB_big {n : Nat} (h : ¬ n < 10) : decB n = decB (n / 10) ++ ⟨#[UInt8.ofNat (48 + n % 10)]⟩ := by
  unfold decB
  rw [Lib.decDigits, dif_neg h]
  apply ByteArray.ext
  simp
theorem dec_digit : ∀ (n : Nat), ∀ c ∈ Lib.decDigits n, 48 ≤ c.toNat ∧ c.toNat ≤ 57 := by
  intro n
  induction n using Nat.strongRecOn with
  | ind n ih =>
    intro c hc
    rw [Lib.decDigits] at hc
    split at hc
    · next h =>
      have : c = UInt8.ofNat (48 + n) := by simpa using hc
      subst this
      rw [UInt8.toNat_ofNat']; omega
    · next h =>
      rcases List.mem_append.1 hc with h1 | h1
      · exact ih (n / 10) (by omega) c h1
      · have : c = UInt8.ofNat (48 + n % 10) := by simpa using h1
        subst this
        rw [UInt8.toNat_ofNat']; omega
theorem dec_some (n : Nat) : 0 < (Lib.decDigits n).length := by
  rw [Lib.decDigits]; split <;> simp
theorem dec_len : ∀ (k n : Nat), n < 10 ^ (k + 1) → (Lib.decDigits n).length ≤ k + 1
  | 0, n, h => by rw [Lib.decDigits_one (by simpa using h)]; simp
  | k + 1, n, h => by
    rw [Lib.decDigits]
    split
    · simp
    · have h10 : n / 10 < 10 ^ (k + 1) := by
        apply Nat.div_lt_of_lt_mul
        rw [Nat.pow_succ] at h
        omega
      have := dec_len k (n / 10) h10
      simp; omega
theorem decB_len {n : Nat} (h : n ≤ 9999999) : (decB n).size ≤ 7 := by
  have := dec_len 6 n (by omega)
  show (Lib.decDigits n).toArray.size ≤ 7
  simpa using this

/-- The text of a valid fraction, the text of any one. -/
def minusB (n : Int) : ByteArray := if n < 0 then ⟨#[45]⟩ ++ decB n.natAbs else decB n.natAbs
def textV (f : Fr) : ByteArray := if 1 < f.2 then minusB f.1 ++ ⟨#[47]⟩ ++ decB f.2.toNat else minusB f.1
def textF (f : Fr) : ByteArray := if fracB f = true then textV f else ByteArray.empty
theorem textF_yes {f : Fr} (h : fracB f = true) : textF f = textV f := by rw [textF, if_pos h]
theorem textF_no {f : Fr} (h : fracB f = false) : textF f = ByteArray.empty := by rw [textF, h]; rfl

/-- A slash is among the first k bytes. -/
def slashTo (s : ByteArray) (k : Nat) : Bool := (s.data.toList.take k).any fun c => c == 47
theorem slashTo_zero (s : ByteArray) : slashTo s 0 = false := by simp [slashTo]
theorem slashTo_succ (s : ByteArray) (k : Nat) (h : k < s.size) : slashTo s (k + 1) = (slashTo s k || s[k] == 47) := by
  have h' : k < s.data.toList.length := by rw [Array.length_toList]; exact h
  unfold slashTo
  rw [List.take_succ_eq_append_getElem h', List.any_append]
  simp
  rfl
def slashB (s : ByteArray) : Bool := s.data.toList.any fun c => c == 47
theorem slashTo_all (s : ByteArray) : slashTo s s.size = slashB s := by
  unfold slashTo slashB
  rw [List.take_of_length_le]
  rw [Array.length_toList]; exact Nat.le_refl _
theorem slash_app (s t : ByteArray) : slashB (s ++ t) = (slashB s || slashB t) := by
  unfold slashB
  rw [← List.any_append]; congr 1
theorem slash_dec (n : Nat) : slashB (decB n) = false := by
  unfold slashB decB
  rw [List.any_eq_false]
  intro c hc
  have := dec_digit n c (by simpa using hc)
  simp only [beq_iff_eq]
  intro e
  rw [e] at this
  exact absurd this.1 (by decide)
theorem slash_minus (n : Int) : slashB (minusB n) = false := by
  unfold minusB
  split
  · rw [slash_app, slash_dec]; rfl
  · exact slash_dec _
/-- **Equal texts ..** (promise 36): a text is not empty, and has a slash where the denominator is greater than 1. -/
theorem text_slash (f : Fr) : slashB (textV f) = decide (1 < f.2) := by
  unfold textV
  by_cases h : 1 < f.2
  · rw [if_pos h, slash_app, slash_app, slash_minus, slash_dec, decide_eq_true h]; rfl
  · rw [if_neg h, slash_minus, decide_eq_false h]
theorem minus_some (n : Int) : 0 < (minusB n).size := by
  have := dec_some n.natAbs
  have e : (decB n.natAbs).size = (Lib.decDigits n.natAbs).length := by show (Lib.decDigits n.natAbs).toArray.size = _; simp
  unfold minusB
  split
  · rw [ByteArray.size_append]; omega
  · omega
theorem text_some (f : Fr) : textV f ≠ ByteArray.empty := by
  have h := minus_some f.1
  intro e
  have h2 : (textV f).size = 0 := by rw [e]; rfl
  unfold textV at h2
  split at h2
  · rw [ByteArray.size_append, ByteArray.size_append] at h2; omega
  · omega

end Go.Proofs.YtoancpdiilofmaaDoor
