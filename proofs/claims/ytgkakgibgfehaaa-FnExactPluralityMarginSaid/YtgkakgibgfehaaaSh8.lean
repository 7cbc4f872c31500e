/-
  Piles in a map from texts to numbers, and what is collected of it and sorted: as lists. No function of the seat.
  The first candidate of a ballot who has not left, as lists. Of no memory.
  Sums over all ballots of piles, as lists: of parts, of merged piles, of piles with two candidates exchanged. Of no memory.
  First preferences are counted, as lists: of ballots that come one pile after the other, of parts, and when somebody leaves. Of no memory.
-/
import Derived.Test.YtgkakgibgfehaaaSh5
import Derived.Maps.Ext
import Derived.Shelf.Small.Strs
import Derived.Sort.Statements
import Derived.Lib.Bytealg
import Derived.Test.YtgkakgibgfehaaaValidP
namespace Go.Proofs.Ytgkakgibgfehaaa
open Go.RowKit Go.Maps Go.Sort

/-! ### The order of strings.Compare -/
theorem cmp_less : ∀ a b : List UInt8, (Lib.compareBytes a b < 0) ↔ Op.bytesLess a b = true
  | [], [] => by simp [Lib.compareBytes, Op.bytesLess]
  | [], b :: bs => by simp [Lib.compareBytes, Op.bytesLess]
  | a :: xs, [] => by simp [Lib.compareBytes, Op.bytesLess]
  | a :: xs, b :: ys => by
    have ih := cmp_less xs ys
    by_cases h : a < b
    · simp [Lib.compareBytes, Op.bytesLess, h]
    · by_cases h' : b < a
      · have : ¬ a = b := fun e => by subst e; exact h h'
        simp [Lib.compareBytes, Op.bytesLess, h, h', this]
      · have e : a = b := UInt8.le_antisymm (UInt8.not_lt.1 h') (UInt8.not_lt.1 h)
        subst e
        simp [Lib.compareBytes, Op.bytesLess, h, ih]
def cmpP (p q : Pl) : Int := Lib.compareBytes p.1.data.toList q.1.data.toList
def ltP (p q : Pl) : Bool := tl p.1 q.1
theorem lt_cmpP (p q : Pl) : decide (cmpP p q < 0) = ltP p q := by
  unfold cmpP ltP tl
  rw [ByteArray.toList_eq, ByteArray.toList_eq, Bool.eq_iff_iff]
  simp only [decide_eq_true_iff]
  exact cmp_less _ _
theorem cmp_neg (p q : Pl) : decide (0 ≤ cmpP p q) = !tl p.1 q.1 := by
  have e : tl p.1 q.1 = decide (cmpP p q < 0) := (lt_cmpP p q).symm
  rw [e]
  by_cases h : cmpP p q < 0
  · have h' : ¬ 0 ≤ cmpP p q := by omega
    simp [h, h']
  · have h' : 0 ≤ cmpP p q := by omega
    simp [h, h']
end Go.Proofs.Ytgkakgibgfehaaa

namespace Go.Proofs.Ytgkakgibgfehaaa

/-- The first of zs who has not left, or -1. -/
def firstL : List Int → List Bool → Int
  | [], _ => -1
  | z :: t, L => if L[z.toNat]?.getD false = true then firstL t L else z
theorem firstL_app {pre : List Int} {L : List Bool} (h : ∀ z ∈ pre, L[z.toNat]?.getD false = true) (rest : List Int) : firstL (pre ++ rest) L = firstL rest L := by
  induction pre with
  | nil => rfl
  | cons z t ih =>
    rw [List.cons_append, firstL, if_pos (h z (by simp))]
    exact ih (fun u hu => h u (by simp [hu]))
def firstB (zs : List Int) (L : List Bool) : Int := if validB zs (L.length : Int) = true then firstL zs L else -1

theorem firstL_mem (zs : List Int) (L : List Bool) : firstL zs L = -1 ∨ firstL zs L ∈ zs := by
  induction zs with
  | nil => exact .inl rfl
  | cons z t ih =>
    unfold firstL
    split
    · rcases ih with h | h
      · exact .inl h
      · exact .inr (by simp [h])
    · exact .inr (by simp)
theorem firstL_here {zs : List Int} {L : List Bool} (hz : ∀ z ∈ zs, 0 ≤ z) (h : 0 ≤ firstL zs L) : L[(firstL zs L).toNat]?.getD false = false := by
  induction zs with
  | nil => simp [firstL] at h
  | cons z t ih =>
    unfold firstL at h ⊢
    split
    · rename_i h1
      rw [if_pos h1] at h
      exact ih (fun u hu => hz u (by simp [hu])) h
    · rename_i h1
      simpa using h1
end Go.Proofs.Ytgkakgibgfehaaa

namespace Go.Proofs.Ytgkakgibgfehaaa

/-- Each ballot counts for what f says of its text. -/
def wsum (f : ByteArray → Int) (ps : List Pl) : Int := ps.foldr (fun p s => f p.1 * p.2 + s) 0
theorem wsum_nil (f : ByteArray → Int) : wsum f [] = 0 := rfl
theorem wsum_cons (f : ByteArray → Int) (p : Pl) (ps : List Pl) : wsum f (p :: ps) = f p.1 * p.2 + wsum f ps := rfl
theorem wsum_app (f : ByteArray → Int) (a b : List Pl) : wsum f (a ++ b) = wsum f a + wsum f b := by
  induction a with
  | nil => rw [List.nil_append, wsum_nil, Int.zero_add]
  | cons p a ih => rw [List.cons_append, wsum_cons, wsum_cons, ih, Int.add_assoc]
theorem wsum_snoc (f : ByteArray → Int) (a : List Pl) (p : Pl) : wsum f (a ++ [p]) = wsum f a + f p.1 * p.2 := by
  rw [wsum_app, wsum_cons, wsum_nil, Int.add_zero]
theorem wsum_congr {f g : ByteArray → Int} {ps : List Pl} (h : ∀ p ∈ ps, f p.1 = g p.1) : wsum f ps = wsum g ps := by
  induction ps with
  | nil => rfl
  | cons p ps ih => rw [wsum_cons, wsum_cons, h p (by simp), ih (fun q hq => h q (by simp [hq]))]
theorem wsum_le {f g : ByteArray → Int} {ps : List Pl} (h : ∀ p ∈ ps, f p.1 ≤ g p.1) (hp : ∀ p ∈ ps, 1 ≤ p.2) : wsum f ps ≤ wsum g ps := by
  induction ps with
  | nil => exact Int.le_refl _
  | cons p ps ih =>
    rw [wsum_cons, wsum_cons]
    have h1 := Int.mul_le_mul_of_nonneg_right (h p (by simp)) (show 0 ≤ p.2 by have := hp p (by simp); omega)
    have h2 := ih (fun q hq => h q (by simp [hq])) (fun q hq => hp q (by simp [hq]))
    omega
theorem wsum_zero (ps : List Pl) : wsum (fun _ => 0) ps = 0 := by
  induction ps with
  | nil => rfl
  | cons p ps ih => rw [wsum_cons, ih, Int.zero_mul, Int.zero_add]
theorem wsum_one (ps : List Pl) : wsum (fun _ => 1) ps = sumL ps := by
  induction ps with
  | nil => rfl
  | cons p ps ih => rw [wsum_cons, ih, Int.one_mul, sumL_cons]
theorem wsum_most {f : ByteArray → Int} {ps : List Pl} (h : ∀ p ∈ ps, f p.1 ≤ 1) (hp : ∀ p ∈ ps, 1 ≤ p.2) : wsum f ps ≤ sumL ps := by
  have := wsum_le (g := fun _ => 1) h hp
  rwa [wsum_one] at this
theorem wsum_add (f g : ByteArray → Int) (ps : List Pl) : wsum (fun t => f t + g t) ps = wsum f ps + wsum g ps := by
  induction ps with
  | nil => rfl
  | cons p ps ih => rw [wsum_cons, wsum_cons, wsum_cons, ih, Int.add_mul]; omega

/-- The sum of some numbers. -/
def totI (l : List Int) : Int := l.foldr (· + ·) 0
theorem totI_nil : totI [] = 0 := rfl
theorem totI_cons (z : Int) (l : List Int) : totI (z :: l) = z + totI l := rfl
theorem totI_app (a b : List Int) : totI (a ++ b) = totI a + totI b := by
  induction a with
  | nil => rw [List.nil_append, totI_nil, Int.zero_add]
  | cons z a ih => rw [List.cons_append, totI_cons, totI_cons, ih, Int.add_assoc]
theorem totI_snoc (a : List Int) (z : Int) : totI (a ++ [z]) = totI a + z := by rw [totI_app, totI_cons, totI_nil, Int.add_zero]
/-- Sums over candidates and over ballots are exchanged. -/
theorem totI_wsum (F : Nat → ByteArray → Int) (n : Nat) (ps : List Pl) : totI ((List.range n).map fun k => wsum (F k) ps) = wsum (fun t => totI ((List.range n).map fun k => F k t)) ps := by
  induction n with
  | zero => simp only [List.range_zero, List.map_nil, totI_nil]; exact (wsum_zero ps).symm
  | succ n ih =>
    simp only [List.range_succ, List.map_append, List.map_cons, List.map_nil, totI_snoc]
    rw [ih, ← wsum_add]
/-- One number of n is 1, the others are 0: or all are 0. -/
theorem totI_one (n : Nat) (z : Int) : totI ((List.range n).map fun (k : Nat) => if z = (k : Int) then (1 : Int) else 0) = if 0 ≤ z ∧ z < (n : Int) then 1 else 0 := by
  induction n with
  | zero =>
    rw [if_neg (by omega)]; rfl
  | succ n ih =>
    simp only [List.range_succ, List.map_append, List.map_cons, List.map_nil, totI_snoc]
    rw [ih]
    by_cases h1 : z = (n : Int)
    · rw [if_neg (by omega), if_pos h1, if_pos (by omega)]; rfl
    · rw [if_neg h1]
      by_cases h2 : 0 ≤ z ∧ z < (n : Int)
      · rw [if_pos h2, if_pos (by omega)]; rfl
      · rw [if_neg h2, if_neg (by omega)]; rfl

end Go.Proofs.Ytgkakgibgfehaaa

namespace Go.Proofs.Ytgkakgibgfehaaa

/-- Whether a text's first candidate is k. -/
def oneF (L : List Bool) (k : Nat) (t : ByteArray) : Int := if firstL (parseL t) L = (k : Int) then 1 else 0
/-- The counts of first preferences. -/
def countsL (ps : List Pl) (L : List Bool) : List Int := (List.range L.length).map fun k => wsum (oneF L k) ps
theorem countsL_length (ps : List Pl) (L : List Bool) : (countsL ps L).length = L.length := by simp [countsL]
theorem countsL_at (ps : List Pl) (L : List Bool) {k : Nat} (h : k < L.length) : (countsL ps L)[k]?.getD 0 = wsum (oneF L k) ps := by
  simp [countsL, h]
theorem countsL_nil (L : List Bool) : countsL [] L = List.replicate L.length 0 := by
  refine List.ext_getElem (by simp [countsL]) (fun i h1 h2 => ?_)
  simp [countsL, wsum_nil]
theorem countsL_hit {pre : List Pl} {p : Pl} {L : List Bool} {k : Nat} (hk : k < L.length) (h : firstL (parseL p.1) L = (k : Int)) : countsL (pre ++ [p]) L = (countsL pre L).set k ((countsL pre L)[k]?.getD 0 + p.2) := by
  rw [countsL_at _ _ hk]
  refine List.ext_getElem (by simp [countsL]) (fun i h1 h2 => ?_)
  have hi : i < L.length := by rwa [countsL_length] at h1
  rw [List.getElem_set]
  simp only [countsL, List.getElem_map, List.getElem_range, wsum_snoc]
  by_cases e : k = i
  · subst e
    rw [if_pos rfl]
    simp only [oneF, h, if_true, Int.one_mul]
  · rw [if_neg e]
    have : oneF L i p.1 = 0 := by unfold oneF; rw [h, if_neg (by omega)]
    rw [this, Int.zero_mul, Int.add_zero]
theorem countsL_miss {pre : List Pl} {p : Pl} {L : List Bool} (h : firstL (parseL p.1) L < 0) : countsL (pre ++ [p]) L = countsL pre L := by
  refine List.ext_getElem (by simp [countsL]) (fun i h1 h2 => ?_)
  simp only [countsL, List.getElem_map, List.getElem_range, wsum_snoc]
  have : oneF L i p.1 = 0 := by unfold oneF; rw [if_neg (by omega)]
  rw [this, Int.zero_mul, Int.add_zero]

theorem oneF_low (L : List Bool) (k : Nat) (t : ByteArray) : 0 ≤ oneF L k t := by unfold oneF; split <;> omega
theorem oneF_high (L : List Bool) (k : Nat) (t : ByteArray) : oneF L k t ≤ 1 := by unfold oneF; split <;> omega
theorem parse_pos (t : ByteArray) : ∀ z ∈ parseL t, 0 ≤ z := by
  intro z hz
  cases hv : validB (nums t) 5
  · rw [parseL_no hv] at hz; cases hz
  · rw [parseL_ok hv] at hz; exact ((vB_mem hv).2.2 z hz).1
/-- **Each ballot counts once.** -/
theorem counts_left {ps : List Pl} {L : List Bool} {k : Nat} (hk : k < L.length) (h : L[k]?.getD false = true) : (countsL ps L)[k]?.getD 0 = 0 := by
  rw [countsL_at _ _ hk, ← wsum_zero ps]
  refine wsum_congr (fun p _ => ?_)
  unfold oneF
  refine if_neg (fun e => ?_)
  have := firstL_here (parse_pos p.1) (L := L) (by omega)
  rw [e, Int.toNat_natCast, h] at this
  cases this
/-- The sum of all counts: each ballot that names somebody who is there. -/
def someF (L : List Bool) (t : ByteArray) : Int := if 0 ≤ firstL (parseL t) L ∧ firstL (parseL t) L < (L.length : Int) then 1 else 0
theorem counts_sum (ps : List Pl) (L : List Bool) : totI (countsL ps L) = wsum (someF L) ps := by
  unfold countsL
  rw [totI_wsum]
  refine wsum_congr (fun p _ => ?_)
  exact totI_one L.length _
theorem counts_most {ps : List Pl} {L : List Bool} (hp : ∀ p ∈ ps, 1 ≤ p.2) : totI (countsL ps L) ≤ sumL ps := by
  rw [counts_sum]
  exact wsum_most (fun p _ => by unfold someF; split <;> omega) hp
/-- **Counts of parts add up.** -/
theorem counts_parts (a b : List Pl) {L : List Bool} {i : Nat} (hi : i < L.length) : (countsL (a ++ b) L)[i]?.getD 0 = (countsL a L)[i]?.getD 0 + (countsL b L)[i]?.getD 0 := by
  rw [countsL_at _ _ hi, countsL_at _ _ hi, countsL_at _ _ hi, wsum_app]
/-- Piles fit n candidates. -/
def fitsB (ps : List Pl) (n : Int) : Bool := pilesB ps && (inB n 1 5 && ps.all fun p => validB (nums p.1) n)

end Go.Proofs.Ytgkakgibgfehaaa
