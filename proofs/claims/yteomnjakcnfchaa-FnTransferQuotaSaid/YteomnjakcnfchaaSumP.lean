/-
  Sums over all ballots of piles, as lists: of parts, of merged piles, of piles with two candidates exchanged. Of no memory.
-/
import Derived.Test.YteomnjakcnfchaaPileQ
namespace Go.Proofs.Yteomnjakcnfchaa

/-- Each ballot counts for what f says of its text. -/
def wsum (f : ByteArray → Int) (ps : List Pl) : Int := ps.foldr (fun p s => f p.1 * p.2 + s) 0
theorem wsum_nil (f : ByteArray → Int) : wsum f [] = 0 := rfl
theorem wsum_cons (f : ByteArray → Int) (p : Pl) (ps : List Pl) : wsum f (p :: ps) = f p.1 * p.2 + wsum f ps := rfl
theorem wsum_app (f : ByteArray → Int) (a b : List Pl) : wsum f (a ++ b) = wsum f a + wsum f b := by
  induction a with
  | nil => rw [List.nil_append, wsum_nil, Int.zero_add]
  | cons p a ih => rw [List.cons_append, wsum_cons, wsum_cons, ih, Int.add_assoc]
theorem wsum_snoc (f : ByteArray → Int) (a : List Pl) (p : Pl) : wsum f (a ++ [p]) = wsum f a + f p.1 * p.2 := by
  rw [wsum_app, wsum_cons, wsum_nil, Int.add_zero]
theorem wsum_put (f : ByteArray → Int) (ps : List Pl) (t : ByteArray) (m : Int) : wsum f (putL ps t m) = wsum f ps + f t * m := by
  induction ps with
  | nil => rw [putL, wsum_cons, wsum_nil]; show f t * m + 0 = 0 + f t * m; omega
  | cons p ps ih =>
    unfold putL
    split
    · rw [wsum_cons, ih, wsum_cons]; omega
    · split
      · rename_i h1 h2
        rw [wsum_cons, wsum_cons, h2]
        show f t * (p.2 + m) + wsum f ps = f t * p.2 + wsum f ps + f t * m
        rw [Int.mul_add]; omega
      · rw [wsum_cons, wsum_cons]
        show f t * m + (f p.1 * p.2 + wsum f ps) = f p.1 * p.2 + wsum f ps + f t * m
        omega
theorem wsum_merge (f : ByteArray → Int) (a b : List Pl) : wsum f (mergeL a b) = wsum f a + wsum f b := by
  induction b generalizing a with
  | nil => rw [mergeL, wsum_nil, Int.add_zero]
  | cons p b ih => rw [mergeL, ih, wsum_put, wsum_cons]; omega
theorem wsum_map (f : ByteArray → Int) (g : ByteArray → ByteArray) (ps : List Pl) : wsum f (ps.map fun p => (g p.1, p.2)) = wsum (fun t => f (g t)) ps := by
  induction ps with
  | nil => rfl
  | cons p ps ih => rw [List.map_cons, wsum_cons, wsum_cons, ih]
theorem wsum_turn (f : ByteArray → Int) (x y : Int) (ps : List Pl) : wsum f (turnPs x y ps) = wsum (fun t => f (turnT x y t)) ps := by
  unfold turnPs
  rw [wsum_merge, wsum_nil, wsum_map, Int.zero_add]
theorem wsum_congr {f g : ByteArray → Int} {ps : List Pl} (h : ∀ p ∈ ps, f p.1 = g p.1) : wsum f ps = wsum g ps := by
  induction ps with
  | nil => rfl
  | cons p ps ih => rw [wsum_cons, wsum_cons, h p (by simp), ih (fun q hq => h q (by simp [hq]))]
theorem wsum_le {f g : ByteArray → Int} {ps : List Pl} (h : ∀ p ∈ ps, f p.1 ≤ g p.1) (hp : ∀ p ∈ ps, 1 ≤ p.2) : wsum f ps ≤ wsum g ps := by
  induction ps with
  | nil => exact Int.le_refl _
  | cons p ps ih =>
    rw [wsum_cons, wsum_cons]
    have h1 := Int.mul_le_mul_of_nonneg_right (h p (by simp)) (show 0 ≤ p.2 by have := hp p (by simp); omega)
    have h2 := ih (fun q hq => h q (by simp [hq])) (fun q hq => hp q (by simp [hq]))
    omega
theorem wsum_zero (ps : List Pl) : wsum (fun _ => 0) ps = 0 := by
  induction ps with
  | nil => rfl
  | cons p ps ih => rw [wsum_cons, ih, Int.zero_mul, Int.zero_add]
theorem wsum_one (ps : List Pl) : wsum (fun _ => 1) ps = sumL ps := by
  induction ps with
  | nil => rfl
  | cons p ps ih => rw [wsum_cons, ih, Int.one_mul, sumL_cons]
theorem wsum_nonneg {f : ByteArray → Int} {ps : List Pl} (h : ∀ p ∈ ps, 0 ≤ f p.1) (hp : ∀ p ∈ ps, 1 ≤ p.2) : 0 ≤ wsum f ps := by
  have := wsum_le (f := fun _ => 0) h hp
  rwa [wsum_zero] at this
theorem wsum_most {f : ByteArray → Int} {ps : List Pl} (h : ∀ p ∈ ps, f p.1 ≤ 1) (hp : ∀ p ∈ ps, 1 ≤ p.2) : wsum f ps ≤ sumL ps := by
  have := wsum_le (g := fun _ => 1) h hp
  rwa [wsum_one] at this
theorem wsum_add (f g : ByteArray → Int) (ps : List Pl) : wsum (fun t => f t + g t) ps = wsum f ps + wsum g ps := by
  induction ps with
  | nil => rfl
  | cons p ps ih => rw [wsum_cons, wsum_cons, wsum_cons, ih, Int.add_mul]; omega

/-- The sum of some numbers. -/
def totI (l : List Int) : Int := l.foldr (· + ·) 0
theorem totI_nil : totI [] = 0 := rfl
theorem totI_cons (z : Int) (l : List Int) : totI (z :: l) = z + totI l := rfl
theorem totI_app (a b : List Int) : totI (a ++ b) = totI a + totI b := by
  induction a with
  | nil => rw [List.nil_append, totI_nil, Int.zero_add]
  | cons z a ih => rw [List.cons_append, totI_cons, totI_cons, ih, Int.add_assoc]
theorem totI_snoc (a : List Int) (z : Int) : totI (a ++ [z]) = totI a + z := by rw [totI_app, totI_cons, totI_nil, Int.add_zero]
/-- Sums over candidates and over ballots are exchanged. -/
theorem totI_wsum (F : Nat → ByteArray → Int) (n : Nat) (ps : List Pl) : totI ((List.range n).map fun k => wsum (F k) ps) = wsum (fun t => totI ((List.range n).map fun k => F k t)) ps := by
  induction n with
  | zero => simp only [List.range_zero, List.map_nil, totI_nil]; exact (wsum_zero ps).symm
  | succ n ih =>
    simp only [List.range_succ, List.map_append, List.map_cons, List.map_nil, totI_snoc]
    rw [ih, ← wsum_add]
theorem totI_le {a b : List Int} (hl : a.length = b.length) (h : ∀ i, i < a.length → a[i]?.getD 0 ≤ b[i]?.getD 0) : totI a ≤ totI b := by
  induction a generalizing b with
  | nil => cases b with
    | nil => exact Int.le_refl _
    | cons _ _ => simp at hl
  | cons x a ih => cases b with
    | nil => simp at hl
    | cons y b =>
      have h0 := h 0 (by simp)
      have ih := ih (b := b) (by simpa using hl) (fun i hi => by have := h (i + 1) (by simp [hi]); simpa using this)
      simp only [totI_cons]
      simp at h0
      omega
/-- One number of n is 1, the others are 0: or all are 0. -/
theorem totI_one (n : Nat) (z : Int) : totI ((List.range n).map fun (k : Nat) => if z = (k : Int) then (1 : Int) else 0) = if 0 ≤ z ∧ z < (n : Int) then 1 else 0 := by
  induction n with
  | zero =>
    rw [if_neg (by omega)]; rfl
  | succ n ih =>
    simp only [List.range_succ, List.map_append, List.map_cons, List.map_nil, totI_snoc]
    rw [ih]
    by_cases h1 : z = (n : Int)
    · rw [if_neg (by omega), if_pos h1, if_pos (by omega)]; rfl
    · rw [if_neg h1]
      by_cases h2 : 0 ≤ z ∧ z < (n : Int)
      · rw [if_pos h2, if_pos (by omega)]; rfl
      · rw [if_neg h2, if_neg (by omega)]; rfl

end Go.Proofs.Yteomnjakcnfchaa
