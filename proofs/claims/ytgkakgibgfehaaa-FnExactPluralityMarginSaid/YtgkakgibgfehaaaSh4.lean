/-
  Texts and ballots, as lists. Of no memory.
  Piles, as lists: valid ones, adding, merging, exchanging, totals. Of no memory.
-/
import Derived.Test.YtgkakgibgfehaaaOfL
import Derived.Laws.BytesArg
import Derived.Laws.Strings
namespace Go.Proofs.Ytgkakgibgfehaaa

/-- The letters of candidates. -/
def txtOf (zs : List Int) : ByteArray := strOfNums (zs.map fun z => 97 + z)
theorem txtOf_size (zs : List Int) : (txtOf zs).size = zs.length := by simp [txtOf, strOfNums_size]
theorem txtOf_snoc (zs : List Int) (z : Int) : txtOf (zs ++ [z]) = txtOf zs ++ txtOf [z] := by
  apply ByteArray.ext
  simp [txtOf, strOfNums]
def txtB (zs : List Int) : ByteArray := if validB zs 5 = true then txtOf zs else ByteArray.empty
theorem letter_of (c : Nat) (h : c < 5) : (ByteArray.mk #[97, 98, 99, 100, 101]).extract c (c + 1) = txtOf [(c : Int)] := by
  have e : c = 0 ∨ c = 1 ∨ c = 2 ∨ c = 3 ∨ c = 4 := by omega
  rcases e with rfl | rfl | rfl | rfl | rfl <;> (apply ByteArray.ext; decide)
theorem take_snoc (zs : List Int) (k : Nat) (h : k < zs.length) : zs.take (k + 1) = zs.take k ++ [zs[k]?.getD 0] := by
  rw [List.take_succ_eq_append_getElem h]; simp [h]

/-- The numbers of a text's letters. -/
def numsL (l : List UInt8) : List Int := l.map fun b => (b.toNat : Int) - 97
def nums (s : ByteArray) : List Int := numsL s.data.toList
theorem nums_length (s : ByteArray) : (nums s).length = s.size := by simp only [nums, numsL, List.length_map, Array.length_toList]; rfl
theorem nums_at (s : ByteArray) (k : Nat) (h : k < s.size) : (nums s)[k]?.getD 0 = (s[k].toNat : Int) - 97 := by
  have h' : k < s.data.toList.length := by rw [Array.length_toList]; exact h
  simp only [nums, numsL, List.getElem?_map, List.getElem?_eq_getElem h', Option.map_some, Option.getD_some]
  rfl

/-- The ballot of a text. -/
def parseL (s : ByteArray) : List Int := if validB (nums s) 5 = true then nums s else []
theorem nums_step (s : ByteArray) (k : Nat) (h : k < s.size) : (nums s).take (k + 1) = (nums s).take k ++ [(s[k].toNat : Int) - 97] := by
  rw [take_snoc _ k (by rw [nums_length]; exact h), nums_at s k h]

theorem parseL_short (s : ByteArray) : (parseL s).length ≤ 5 := by
  unfold parseL
  cases h : validB (nums s) 5
  · simp
  · simpa using (by have := vB_short h; omega)

theorem parseL_ok {s : ByteArray} (hv : validB (nums s) 5 = true) : parseL s = nums s := by simp [parseL, hv]
theorem parseL_no {s : ByteArray} (hv : validB (nums s) 5 = false) : parseL s = [] := by simp [parseL, hv]
end Go.Proofs.Ytgkakgibgfehaaa

namespace Go.Proofs.Ytgkakgibgfehaaa

/-- The order of texts, byte by byte. -/
theorem bl_irrefl : ∀ x : List UInt8, Op.bytesLess x x = false
  | [] => rfl
  | a :: x => by simp [Op.bytesLess, bl_irrefl x]
theorem bl_trans : ∀ x y z : List UInt8, Op.bytesLess x y = true → Op.bytesLess y z = true → Op.bytesLess x z = true
  | _, _, [], _, h => by simp [Op.bytesLess] at h
  | [], _, _ :: _, _, _ => rfl
  | _ :: _, [], _ :: _, h, _ => by simp [Op.bytesLess] at h
  | a :: x, b :: y, c :: z, h1, h2 => by
    simp only [Op.bytesLess, Bool.or_eq_true, decide_eq_true_eq, Bool.and_eq_true, beq_iff_eq] at h1 h2 ⊢
    rcases h1 with h1 | ⟨rfl, h1⟩
    · rcases h2 with h2 | ⟨rfl, h2⟩
      · exact .inl (UInt8.lt_trans h1 h2)
      · exact .inl h1
    · rcases h2 with h2 | ⟨rfl, h2⟩
      · exact .inl h2
      · exact .inr ⟨rfl, bl_trans x y z h1 h2⟩
def tl (a b : ByteArray) : Bool := Op.bytesLess a.toList b.toList
theorem tl_irrefl (a : ByteArray) : tl a a = false := bl_irrefl _
theorem tl_trans {a b c : ByteArray} (h : tl a b = true) (h' : tl b c = true) : tl a c = true := bl_trans _ _ _ h h'
theorem list_text {a b : ByteArray} (h : a.toList = b.toList) : a = b := by
  rw [ByteArray.toList_eq, ByteArray.toList_eq] at h
  exact ByteArray.ext (Array.ext' h)
theorem eq_text (a b : ByteArray) : (a.toList == b.toList) = decide (a = b) := by
  by_cases h : a = b
  · subst h; simp
  · have : ¬ a.toList = b.toList := fun e => h (list_text e)
    simp [h, this]

abbrev Pl := ByteArray × Int
def tAt (ps : List Pl) (i : Nat) : ByteArray := (ps[i]?.getD (ByteArray.empty, 0)).1
def mAt (ps : List Pl) (i : Nat) : Int := (ps[i]?.getD (ByteArray.empty, 0)).2
/-- A pile is valid. -/
def pileB (t : ByteArray) (m : Int) : Bool := validB (nums t) 5 && inB m 1 99
theorem pileB_iff (t : ByteArray) (m : Int) : pileB t m = true ↔ validB (nums t) 5 = true ∧ 1 ≤ m ∧ m ≤ 99 := by simp [pileB, inB]
/-- The first k piles are valid, and ascend. -/
def ascTo (ps : List Pl) (k : Nat) : Bool := (List.range k).all fun i => pileB (tAt ps i) (mAt ps i) && (decide (i = 0) || tl (tAt ps (i - 1)) (tAt ps i))
theorem ascTo_succ (ps : List Pl) (k : Nat) : ascTo ps (k + 1) = (ascTo ps k && (pileB (tAt ps k) (mAt ps k) && (decide (k = 0) || tl (tAt ps (k - 1)) (tAt ps k)))) := by simp [ascTo, List.range_succ]
theorem ascTo_no {ps : List Pl} {k n : Nat} (h : ascTo ps (k + 1) = false) (hk : k < n) : ascTo ps n = false := by
  simp only [ascTo, List.all_eq_false, List.mem_range] at h ⊢
  obtain ⟨i, h1, h2⟩ := h
  exact ⟨i, by omega, h2⟩
/-- Piles are valid. -/
def pilesB (ps : List Pl) : Bool := ascTo ps ps.length && decide ((ps.length : Int) ≤ 12)

def Asc (ps : List Pl) : Prop := ps.Pairwise fun p q => tl p.1 q.1 = true
theorem asc_of {ps : List Pl} (h : ∀ i, i + 1 < ps.length → tl (tAt ps i) (tAt ps (i + 1)) = true) : Asc ps := by
  have far : ∀ d i, i + d + 1 < ps.length → tl (tAt ps i) (tAt ps (i + d + 1)) = true := by
    intro d
    induction d with
    | zero => intro i hi; exact h i hi
    | succ d ih => intro i hi; exact tl_trans (ih i (by omega)) (h (i + d + 1) (by omega))
  unfold Asc
  rw [List.pairwise_iff_getElem]
  intro i j hi hj hij
  have := far (j - i - 1) i (by omega)
  rw [show i + (j - i - 1) + 1 = j from by omega] at this
  simpa [tAt, hi, hj] using this
theorem asc_at {ps : List Pl} (h : Asc ps) {i j : Nat} (hij : i < j) (hj : j < ps.length) : tl (tAt ps i) (tAt ps j) = true := by
  have := (List.pairwise_iff_getElem.1 h) i j (by omega) hj hij
  simpa [tAt, hj, show i < ps.length from by omega] using this
theorem pilesB_iff (ps : List Pl) : pilesB ps = true ↔ (∀ p ∈ ps, pileB p.1 p.2 = true) ∧ Asc ps ∧ ps.length ≤ 12 := by
  simp only [pilesB, ascTo, Bool.and_eq_true, List.all_eq_true, List.mem_range, Bool.or_eq_true, decide_eq_true_eq]
  constructor
  · rintro ⟨h, hl⟩
    refine ⟨fun p hp => ?_, asc_of fun i hi => ?_, by omega⟩
    · obtain ⟨i, hi, rfl⟩ := List.mem_iff_getElem.1 hp
      have := (h i hi).1
      simpa [tAt, mAt, hi] using this
    · have := (h (i + 1) hi).2
      simpa using this
  · rintro ⟨h1, h2, h3⟩
    refine ⟨fun i hi => ⟨?_, ?_⟩, by omega⟩
    · have := h1 _ (List.getElem_mem hi)
      simpa [tAt, mAt, hi] using this
    · by_cases e : i = 0
      · exact .inl e
      · exact .inr (asc_at h2 (by omega) hi)

/-- Ballots are put to their pile, or a new one. -/
def putL : List Pl → ByteArray → Int → List Pl
  | [], t, m => [(t, m)]
  | p :: ps, t, m => if tl p.1 t = true then p :: putL ps t m else if p.1 = t then (t, p.2 + m) :: ps else (t, m) :: p :: ps
theorem put_texts {ps : List Pl} {t : ByteArray} {m : Int} : ∀ q ∈ putL ps t m, q.1 = t ∨ ∃ p ∈ ps, p.1 = q.1 := by
  induction ps with
  | nil => intro q hq; simp [putL] at hq; exact .inl (by rw [hq])
  | cons p ps ih =>
    intro q hq
    unfold putL at hq
    split at hq
    · rcases List.mem_cons.1 hq with e | hq
      · exact .inr ⟨p, by simp, by rw [e]⟩
      · rcases ih q hq with e | ⟨r, hr, e⟩
        · exact .inl e
        · exact .inr ⟨r, by simp [hr], e⟩
    · split at hq
      · rcases List.mem_cons.1 hq with e | hq
        · exact .inl (by rw [e])
        · exact .inr ⟨q, by simp [hq], rfl⟩
      · rcases List.mem_cons.1 hq with e | hq
        · exact .inl (by rw [e])
        · exact .inr ⟨q, hq, rfl⟩
theorem put_longer (ps : List Pl) (t : ByteArray) (m : Int) : ps.length ≤ (putL ps t m).length ∧ (putL ps t m).length ≤ ps.length + 1 := by
  induction ps with
  | nil => simp [putL]
  | cons p ps ih =>
    unfold putL
    split
    · simp; omega
    · split <;> simp

/-- All ballots. -/
def sumL (ps : List Pl) : Int := ps.foldr (fun p s => p.2 + s) 0
theorem sumL_cons (p : Pl) (ps : List Pl) : sumL (p :: ps) = p.2 + sumL ps := rfl
theorem pilesB_pos {a : List Pl} (h : pilesB a = true) : Asc a ∧ (∀ p ∈ a, 1 ≤ p.2) ∧ (∀ p ∈ a, p.2 ≤ 99) ∧ (∀ p ∈ a, validB (nums p.1) 5 = true) ∧ a.length ≤ 12 := by
  obtain ⟨h1, h2, h3⟩ := (pilesB_iff a).1 h
  exact ⟨h2, fun p hp => ((pileB_iff _ _).1 (h1 p hp)).2.1, fun p hp => ((pileB_iff _ _).1 (h1 p hp)).2.2, fun p hp => ((pileB_iff _ _).1 (h1 p hp)).1, h3⟩
end Go.Proofs.Ytgkakgibgfehaaa
