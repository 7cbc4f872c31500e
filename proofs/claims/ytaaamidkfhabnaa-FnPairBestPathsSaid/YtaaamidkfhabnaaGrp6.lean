/-
  What the drawn statements of piles get: DrawPilesValid, DrawPilesTotal, DrawPilesMerge, DrawPilesTurn, DrawPilesAdd.
  Sums over all ballots of piles, as lists: of parts, of merged piles, of piles with two candidates exchanged. Of no memory.
  The first candidate of a ballot who has not left, as lists. Of no memory.
  First preferences are counted, as lists: of ballots that come one pile after the other, of parts, and when somebody leaves. Of no memory.
  Whether piles fit n candidates: spec.l3Fits, for every list of piles (at most 1048600, with texts of at most 1048600 bytes) and every number; it does not write into memory that was there.
  Marks that are those of a form: l2Marks and impl.marksValid answer alike for every list of at most 1048600 ints, and write nothing.
  The marks on which more than half of all readers agree, as a list. Of no memory.
  What a slice of slices of ints holds; l2Count and spec.MarksAgree. No condition but what each theorem says.
  A list that a call returns with a bool (Told); a block of the call's own is kept. No condition but what each theorem says.
-/
import Derived.Test.YtaaamidkfhabnaaDrawPl
import Derived.Deep.RegionLaw
import Derived.Deep.AppendLies
import Derived.Test.YtaaamidkfhabnaaGrp2
import Derived.Test.YtaaamidkfhabnaaGrp1
import Derived.Test.YtaaamidkfhabnaaGrp3
import Derived.Test.YtaaamidkfhabnaaAddS
import Derived.Test.YtaaamidkfhabnaaBase
import Derived.Deep.Onto
namespace Go.Proofs.Ytaaamidkfhabnaa
open Go.RowKit

/-- A list of piles of the call's own. -/
def HasP (w0 w : World) (ps : List Pl) (g cap : Nat) : Prop := w.ownsRow w0.heap.size 59 2 (.slice (some ⟨g, 0, none⟩) ps.length cap) ps.length (cellsP ps) ∧ Small ps ∧ Few ps ∧ ps.length ≤ 13
theorem HasP.below {w0 w w' : World} {ps : List Pl} {g cap : Nat} (h : HasP w0 w ps g cap) (hb : Below w.heap.size w w') : HasP w0 w' ps g cap := ⟨owns_below h.1 hb, h.2⟩
theorem HasP.piles {w0 w : World} {ps : List Pl} {g cap : Nat} (h : HasP w0 w ps g cap) : IsPiles w (some ⟨g, 0, none⟩) ps.length cap ps := IsPiles.of_owned h.1 (by have := h.2.2.2; omega)
theorem HasP.lt {w0 w : World} {ps : List Pl} {g cap : Nat} (h : HasP w0 w ps g cap) : g < w.heap.size := (h.1.lt g rfl).2

end Go.Proofs.Ytaaamidkfhabnaa

namespace Go.Proofs.Ytaaamidkfhabnaa

/-- Each ballot counts for what f says of its text. -/
def wsum (f : ByteArray → Int) (ps : List Pl) : Int := ps.foldr (fun p s => f p.1 * p.2 + s) 0
theorem wsum_nil (f : ByteArray → Int) : wsum f [] = 0 := rfl
theorem wsum_cons (f : ByteArray → Int) (p : Pl) (ps : List Pl) : wsum f (p :: ps) = f p.1 * p.2 + wsum f ps := rfl
theorem wsum_app (f : ByteArray → Int) (a b : List Pl) : wsum f (a ++ b) = wsum f a + wsum f b := by
  induction a with
  | nil => rw [List.nil_append, wsum_nil, Int.zero_add]
  | cons p a ih => rw [List.cons_append, wsum_cons, wsum_cons, ih, Int.add_assoc]
theorem wsum_snoc (f : ByteArray → Int) (a : List Pl) (p : Pl) : wsum f (a ++ [p]) = wsum f a + f p.1 * p.2 := by
  rw [wsum_app, wsum_cons, wsum_nil, Int.add_zero]
theorem wsum_put (f : ByteArray → Int) (ps : List Pl) (t : ByteArray) (m : Int) : wsum f (putL ps t m) = wsum f ps + f t * m := by
  induction ps with
  | nil => rw [putL, wsum_cons, wsum_nil]; show f t * m + 0 = 0 + f t * m; omega
  | cons p ps ih =>
    unfold putL
    split
    · rw [wsum_cons, ih, wsum_cons]; omega
    · split
      · rename_i h1 h2
        rw [wsum_cons, wsum_cons, h2]
        show f t * (p.2 + m) + wsum f ps = f t * p.2 + wsum f ps + f t * m
        rw [Int.mul_add]; omega
      · rw [wsum_cons, wsum_cons]
        show f t * m + (f p.1 * p.2 + wsum f ps) = f p.1 * p.2 + wsum f ps + f t * m
        omega
theorem wsum_merge (f : ByteArray → Int) (a b : List Pl) : wsum f (mergeL a b) = wsum f a + wsum f b := by
  induction b generalizing a with
  | nil => rw [mergeL, wsum_nil, Int.add_zero]
  | cons p b ih => rw [mergeL, ih, wsum_put, wsum_cons]; omega
theorem wsum_map (f : ByteArray → Int) (g : ByteArray → ByteArray) (ps : List Pl) : wsum f (ps.map fun p => (g p.1, p.2)) = wsum (fun t => f (g t)) ps := by
  induction ps with
  | nil => rfl
  | cons p ps ih => rw [List.map_cons, wsum_cons, wsum_cons, ih]
theorem wsum_turn (f : ByteArray → Int) (x y : Int) (ps : List Pl) : wsum f (turnPs x y ps) = wsum (fun t => f (turnT x y t)) ps := by
  unfold turnPs
  rw [wsum_merge, wsum_nil, wsum_map, Int.zero_add]
theorem wsum_congr {f g : ByteArray → Int} {ps : List Pl} (h : ∀ p ∈ ps, f p.1 = g p.1) : wsum f ps = wsum g ps := by
  induction ps with
  | nil => rfl
  | cons p ps ih => rw [wsum_cons, wsum_cons, h p (by simp), ih (fun q hq => h q (by simp [hq]))]
theorem wsum_le {f g : ByteArray → Int} {ps : List Pl} (h : ∀ p ∈ ps, f p.1 ≤ g p.1) (hp : ∀ p ∈ ps, 1 ≤ p.2) : wsum f ps ≤ wsum g ps := by
  induction ps with
  | nil => exact Int.le_refl _
  | cons p ps ih =>
    rw [wsum_cons, wsum_cons]
    have h1 := Int.mul_le_mul_of_nonneg_right (h p (by simp)) (show 0 ≤ p.2 by have := hp p (by simp); omega)
    have h2 := ih (fun q hq => h q (by simp [hq])) (fun q hq => hp q (by simp [hq]))
    omega
theorem wsum_zero (ps : List Pl) : wsum (fun _ => 0) ps = 0 := by
  induction ps with
  | nil => rfl
  | cons p ps ih => rw [wsum_cons, ih, Int.zero_mul, Int.zero_add]
theorem wsum_one (ps : List Pl) : wsum (fun _ => 1) ps = sumL ps := by
  induction ps with
  | nil => rfl
  | cons p ps ih => rw [wsum_cons, ih, Int.one_mul, sumL_cons]
theorem wsum_nonneg {f : ByteArray → Int} {ps : List Pl} (h : ∀ p ∈ ps, 0 ≤ f p.1) (hp : ∀ p ∈ ps, 1 ≤ p.2) : 0 ≤ wsum f ps := by
  have := wsum_le (f := fun _ => 0) h hp
  rwa [wsum_zero] at this
theorem wsum_most {f : ByteArray → Int} {ps : List Pl} (h : ∀ p ∈ ps, f p.1 ≤ 1) (hp : ∀ p ∈ ps, 1 ≤ p.2) : wsum f ps ≤ sumL ps := by
  have := wsum_le (g := fun _ => 1) h hp
  rwa [wsum_one] at this
theorem wsum_add (f g : ByteArray → Int) (ps : List Pl) : wsum (fun t => f t + g t) ps = wsum f ps + wsum g ps := by
  induction ps with
  | nil => rfl
  | cons p ps ih => rw [wsum_cons, wsum_cons, wsum_cons, ih, Int.add_mul]; omega

/-- The sum of some numbers. -/
def totI (l : List Int) : Int := l.foldr (· + ·) 0
theorem totI_nil : totI [] = 0 := rfl
theorem totI_cons (z : Int) (l : List Int) : totI (z :: l) = z + totI l := rfl
theorem totI_app (a b : List Int) : totI (a ++ b) = totI a + totI b := by
  induction a with
  | nil => rw [List.nil_append, totI_nil, Int.zero_add]
  | cons z a ih => rw [List.cons_append, totI_cons, totI_cons, ih, Int.add_assoc]
theorem totI_snoc (a : List Int) (z : Int) : totI (a ++ [z]) = totI a + z := by rw [totI_app, totI_cons, totI_nil, Int.add_zero]
/-- Sums over candidates and over ballots are exchanged. -/
theorem totI_wsum (F : Nat → ByteArray → Int) (n : Nat) (ps : List Pl) : totI ((List.range n).map fun k => wsum (F k) ps) = wsum (fun t => totI ((List.range n).map fun k => F k t)) ps := by
  induction n with
  | zero => simp only [List.range_zero, List.map_nil, totI_nil]; exact (wsum_zero ps).symm
  | succ n ih =>
    simp only [List.range_succ, List.map_append, List.map_cons, List.map_nil, totI_snoc]
    rw [ih, ← wsum_add]
theorem totI_le {a b : List Int} (hl : a.length = b.length) (h : ∀ i, i < a.length → a[i]?.getD 0 ≤ b[i]?.getD 0) : totI a ≤ totI b := by
  induction a generalizing b with
  | nil => cases b with
    | nil => exact Int.le_refl _
    | cons _ _ => simp at hl
  | cons x a ih => cases b with
    | nil => simp at hl
    | cons y b =>
      have h0 := h 0 (by simp)
      have ih := ih (b := b) (by simpa using hl) (fun i hi => by have := h (i + 1) (by simp [hi]); simpa using this)
      simp only [totI_cons]
      simp at h0
      omega
/-- One number of n is 1, the others are 0: or all are 0. -/
theorem totI_one (n : Nat) (z : Int) : totI ((List.range n).map fun (k : Nat) => if z = (k : Int) then (1 : Int) else 0) = if 0 ≤ z ∧ z < (n : Int) then 1 else 0 := by
  induction n with
  | zero =>
    rw [if_neg (by omega)]; rfl
  | succ n ih =>
    simp only [List.range_succ, List.map_append, List.map_cons, List.map_nil, totI_snoc]
    rw [ih]
    by_cases h1 : z = (n : Int)
    · rw [if_neg (by omega), if_pos h1, if_pos (by omega)]; rfl
    · rw [if_neg h1]
      by_cases h2 : 0 ≤ z ∧ z < (n : Int)
      · rw [if_pos h2, if_pos (by omega)]; rfl
      · rw [if_neg h2, if_neg (by omega)]; rfl

end Go.Proofs.Ytaaamidkfhabnaa

namespace Go.Proofs.Ytaaamidkfhabnaa

/-- The first of zs who has not left, or -1. -/
def firstL : List Int → List Bool → Int
  | [], _ => -1
  | z :: t, L => if L[z.toNat]?.getD false = true then firstL t L else z
theorem firstL_app {pre : List Int} {L : List Bool} (h : ∀ z ∈ pre, L[z.toNat]?.getD false = true) (rest : List Int) : firstL (pre ++ rest) L = firstL rest L := by
  induction pre with
  | nil => rfl
  | cons z t ih =>
    rw [List.cons_append, firstL, if_pos (h z (by simp))]
    exact ih (fun u hu => h u (by simp [hu]))
def firstB (zs : List Int) (L : List Bool) : Int := if validB zs (L.length : Int) = true then firstL zs L else -1

theorem firstL_mem (zs : List Int) (L : List Bool) : firstL zs L = -1 ∨ firstL zs L ∈ zs := by
  induction zs with
  | nil => exact .inl rfl
  | cons z t ih =>
    unfold firstL
    split
    · rcases ih with h | h
      · exact .inl h
      · exact .inr (by simp [h])
    · exact .inr (by simp)
theorem firstL_here {zs : List Int} {L : List Bool} (hz : ∀ z ∈ zs, 0 ≤ z) (h : 0 ≤ firstL zs L) : L[(firstL zs L).toNat]?.getD false = false := by
  induction zs with
  | nil => simp [firstL] at h
  | cons z t ih =>
    unfold firstL at h ⊢
    split
    · rename_i h1
      rw [if_pos h1] at h
      exact ih (fun u hu => hz u (by simp [hu])) h
    · rename_i h1
      simpa using h1
theorem set_at (L : List Bool) (k i : Nat) (h : k < L.length) : (L.set k true)[i]?.getD false = if i = k then true else L[i]?.getD false := by
  rw [List.getElem?_set]
  by_cases e : k = i
  · subst e; simp [h]
  · rw [if_neg e, if_neg (fun h => e h.symm)]
/-- Who stays is still the first one when another one leaves. -/
theorem firstL_set {zs : List Int} {L : List Bool} {k : Nat} (hk : k < L.length) (hz : ∀ z ∈ zs, 0 ≤ z) (h : firstL zs L ≠ (k : Int)) : firstL zs (L.set k true) = firstL zs L := by
  induction zs with
  | nil => rfl
  | cons z t ih =>
    have hz0 := hz z (by simp)
    unfold firstL at h ⊢
    by_cases h1 : L[z.toNat]?.getD false = true
    · rw [if_pos h1] at h ⊢
      rw [if_pos (by rw [set_at _ _ _ hk]; split <;> simp [h1])]
      exact ih (fun u hu => hz u (by simp [hu])) h
    · rw [if_neg h1] at h ⊢
      rw [if_neg (by rw [set_at _ _ _ hk, if_neg (by omega)]; exact h1)]
theorem firstL_set_some {zs : List Int} {L : List Bool} {k : Nat} (hk : k < L.length) (hz : ∀ z ∈ zs, 0 ≤ z) (h : 0 ≤ firstL zs (L.set k true)) : 0 ≤ firstL zs L := by
  by_cases e : firstL zs L = (k : Int)
  · omega
  · rwa [firstL_set hk hz e] at h
theorem firstL_none (zs : List Int) (n : Nat) : firstL zs (List.replicate n false) = zs.head?.getD (-1) := by
  cases zs with
  | nil => rfl
  | cons z t =>
    unfold firstL
    rw [if_neg (by rw [List.getElem?_replicate]; split <;> simp)]
    rfl

end Go.Proofs.Ytaaamidkfhabnaa

namespace Go.Proofs.Ytaaamidkfhabnaa

/-- Whether a text's first candidate is k. -/
def oneF (L : List Bool) (k : Nat) (t : ByteArray) : Int := if firstL (parseL t) L = (k : Int) then 1 else 0
/-- The counts of first preferences. -/
def countsL (ps : List Pl) (L : List Bool) : List Int := (List.range L.length).map fun k => wsum (oneF L k) ps
theorem countsL_length (ps : List Pl) (L : List Bool) : (countsL ps L).length = L.length := by simp [countsL]
theorem countsL_at (ps : List Pl) (L : List Bool) {k : Nat} (h : k < L.length) : (countsL ps L)[k]?.getD 0 = wsum (oneF L k) ps := by
  simp [countsL, h]
theorem countsL_nil (L : List Bool) : countsL [] L = List.replicate L.length 0 := by
  refine List.ext_getElem (by simp [countsL]) (fun i h1 h2 => ?_)
  simp [countsL, wsum_nil]
theorem countsL_hit {pre : List Pl} {p : Pl} {L : List Bool} {k : Nat} (hk : k < L.length) (h : firstL (parseL p.1) L = (k : Int)) : countsL (pre ++ [p]) L = (countsL pre L).set k ((countsL pre L)[k]?.getD 0 + p.2) := by
  rw [countsL_at _ _ hk]
  refine List.ext_getElem (by simp [countsL]) (fun i h1 h2 => ?_)
  have hi : i < L.length := by rwa [countsL_length] at h1
  rw [List.getElem_set]
  simp only [countsL, List.getElem_map, List.getElem_range, wsum_snoc]
  by_cases e : k = i
  · subst e
    rw [if_pos rfl]
    simp only [oneF, h, if_true, Int.one_mul]
  · rw [if_neg e]
    have : oneF L i p.1 = 0 := by unfold oneF; rw [h, if_neg (by omega)]
    rw [this, Int.zero_mul, Int.add_zero]
theorem countsL_miss {pre : List Pl} {p : Pl} {L : List Bool} (h : firstL (parseL p.1) L < 0) : countsL (pre ++ [p]) L = countsL pre L := by
  refine List.ext_getElem (by simp [countsL]) (fun i h1 h2 => ?_)
  simp only [countsL, List.getElem_map, List.getElem_range, wsum_snoc]
  have : oneF L i p.1 = 0 := by unfold oneF; rw [if_neg (by omega)]
  rw [this, Int.zero_mul, Int.add_zero]

theorem oneF_low (L : List Bool) (k : Nat) (t : ByteArray) : 0 ≤ oneF L k t := by unfold oneF; split <;> omega
theorem oneF_high (L : List Bool) (k : Nat) (t : ByteArray) : oneF L k t ≤ 1 := by unfold oneF; split <;> omega
theorem parse_pos (t : ByteArray) : ∀ z ∈ parseL t, 0 ≤ z := by
  intro z hz
  cases hv : validB (nums t) 5
  · rw [parseL_no hv] at hz; cases hz
  · rw [parseL_ok hv] at hz; exact ((vB_mem hv).2.2 z hz).1
/-- **Each ballot counts once.** -/
theorem counts_left {ps : List Pl} {L : List Bool} {k : Nat} (hk : k < L.length) (h : L[k]?.getD false = true) : (countsL ps L)[k]?.getD 0 = 0 := by
  rw [countsL_at _ _ hk, ← wsum_zero ps]
  refine wsum_congr (fun p _ => ?_)
  unfold oneF
  refine if_neg (fun e => ?_)
  have := firstL_here (parse_pos p.1) (L := L) (by omega)
  rw [e, Int.toNat_natCast, h] at this
  cases this
theorem counts_low {ps : List Pl} {L : List Bool} {k : Nat} (hk : k < L.length) (hp : ∀ p ∈ ps, 1 ≤ p.2) : 0 ≤ (countsL ps L)[k]?.getD 0 := by
  rw [countsL_at _ _ hk]
  exact wsum_nonneg (fun p _ => oneF_low _ _ _) hp
/-- The sum of all counts: each ballot that names somebody who is there. -/
def someF (L : List Bool) (t : ByteArray) : Int := if 0 ≤ firstL (parseL t) L ∧ firstL (parseL t) L < (L.length : Int) then 1 else 0
theorem counts_sum (ps : List Pl) (L : List Bool) : totI (countsL ps L) = wsum (someF L) ps := by
  unfold countsL
  rw [totI_wsum]
  refine wsum_congr (fun p _ => ?_)
  exact totI_one L.length _
theorem counts_most {ps : List Pl} {L : List Bool} (hp : ∀ p ∈ ps, 1 ≤ p.2) : totI (countsL ps L) ≤ sumL ps := by
  rw [counts_sum]
  exact wsum_most (fun p _ => by unfold someF; split <;> omega) hp
theorem count_most {ps : List Pl} {L : List Bool} {k : Nat} (hk : k < L.length) (hp : ∀ p ∈ ps, 1 ≤ p.2) : (countsL ps L)[k]?.getD 0 ≤ sumL ps := by
  rw [countsL_at _ _ hk]
  exact wsum_most (fun p _ => oneF_high _ _ _) hp
/-- **Who stays loses nothing.** -/
theorem counts_more {ps : List Pl} {L : List Bool} {k i : Nat} (hk : k < L.length) (hi : i < L.length) (hki : i ≠ k) (hp : ∀ p ∈ ps, 1 ≤ p.2) : (countsL ps L)[i]?.getD 0 ≤ (countsL ps (L.set k true))[i]?.getD 0 := by
  rw [countsL_at _ _ hi, countsL_at _ _ (by rw [List.length_set]; exact hi)]
  refine wsum_le (fun p _ => ?_) hp
  unfold oneF
  by_cases e : firstL (parseL p.1) L = (i : Int)
  · have e2 := firstL_set hk (parse_pos p.1) (show firstL (parseL p.1) L ≠ (k : Int) by omega)
    rw [if_pos e, if_pos (by rw [e2, e])]
    exact Int.le_refl _
  · rw [if_neg e]; split <;> omega
theorem counts_more_sum {ps : List Pl} {L : List Bool} {k : Nat} (hk : k < L.length) (hp : ∀ p ∈ ps, 1 ≤ p.2) : totI (countsL ps (L.set k true)) ≤ totI (countsL ps L) := by
  rw [counts_sum, counts_sum]
  refine wsum_le (fun p _ => ?_) hp
  unfold someF
  by_cases e : firstL (parseL p.1) L = (k : Int)
  · rw [if_pos (show 0 ≤ firstL (parseL p.1) L ∧ firstL (parseL p.1) L < (L.length : Int) by omega)]
    split <;> omega
  · rw [firstL_set hk (parse_pos p.1) e, List.length_set]
    exact Int.le_refl _
/-- **Counts of parts add up.** -/
theorem counts_parts (a b : List Pl) {L : List Bool} {i : Nat} (hi : i < L.length) : (countsL (a ++ b) L)[i]?.getD 0 = (countsL a L)[i]?.getD 0 + (countsL b L)[i]?.getD 0 := by
  rw [countsL_at _ _ hi, countsL_at _ _ hi, countsL_at _ _ hi, wsum_app]
theorem counts_merge (a b : List Pl) {L : List Bool} {i : Nat} (hi : i < L.length) : (countsL (mergeL a b) L)[i]?.getD 0 = (countsL a L)[i]?.getD 0 + (countsL b L)[i]?.getD 0 := by
  rw [countsL_at _ _ hi, countsL_at _ _ hi, countsL_at _ _ hi, wsum_merge]
theorem counts_put (a : List Pl) (t : ByteArray) (m : Int) {L : List Bool} {i : Nat} (hi : i < L.length) : (countsL (putL a t m) L)[i]?.getD 0 = (countsL a L)[i]?.getD 0 + oneF L i t * m := by
  rw [countsL_at _ _ hi, countsL_at _ _ hi, wsum_put]

/-- Piles fit n candidates. -/
def fitsB (ps : List Pl) (n : Int) : Bool := pilesB ps && (inB n 1 5 && ps.all fun p => validB (nums p.1) n)

end Go.Proofs.Ytaaamidkfhabnaa

namespace Go.Proofs.Ytaaamidkfhabnaa
open Go.RowKit

attribute [local go_sem] Oper.semAt_some

theorem pile_mem {ps : List Pl} {k : Nat} (h : k < ps.length) : (tAt ps k, mAt ps k) ∈ ps := by
  have : (tAt ps k, mAt ps k) = ps[k] := by simp [tAt, mAt, h]
  rw [this]; exact List.getElem_mem h
theorem fits_no {ps : List Pl} {n : Int} {k : Nat} (hk : k < ps.length) (h : validB (parseL (tAt ps k)) n = false) : fitsB ps n = false := by
  cases hf : fitsB ps n
  · rfl
  · exfalso
    simp only [fitsB, Bool.and_eq_true, List.all_eq_true] at hf
    have hm := pile_mem hk
    have h1 := hf.2.2 _ hm
    have h2 := (pilesB_pos hf.1).2.2.2.1 _ hm
    rw [parseL_ok h2, h1] at h
    cases h
theorem fits_all {ps : List Pl} {n : Int} (h : ∀ i, i < ps.length → validB (parseL (tAt ps i)) n = true) : fitsB ps n = (pilesB ps && inB n 1 5) := by
  unfold fitsB
  cases hp : pilesB ps
  · rfl
  · have e : (ps.all fun p => validB (nums p.1) n) = true := by
      rw [List.all_eq_true]
      intro p hm
      obtain ⟨i, hi, rfl⟩ := List.mem_iff_getElem.1 hm
      have h1 := h i hi
      have h2 := (pilesB_pos hp).2.2.2.1 _ hm
      have e : tAt ps i = (ps[i]).1 := by simp [tAt, hi]
      rw [e, parseL_ok h2] at h1
      exact h1
    rw [e, Bool.and_true]
theorem fits_parts {ps : List Pl} {n : Int} (h : fitsB ps n = true) : pilesB ps = true ∧ 1 ≤ n ∧ n ≤ 5 ∧ ∀ i, i < ps.length → validB (parseL (tAt ps i)) n = true := by
  simp only [fitsB, Bool.and_eq_true, List.all_eq_true] at h
  refine ⟨h.1, ?_, ?_, fun i hi => ?_⟩
  · have := h.2.1; simp [inB] at this; omega
  · have := h.2.1; simp [inB] at this; omega
  · have hm := pile_mem hi
    have h1 := h.2.2 _ hm
    have h2 := (pilesB_pos h.1).2.2.2.1 _ hm
    rw [parseL_ok h2]; exact h1
theorem IsPiles.at_text {w : World} {a : Option Addr} {len cap : Nat} {ps : List Pl} (h : IsPiles w a len cap ps) {k : Nat} (hk : k < len) : ∃ b off, a = some ⟨b, off, none⟩ ∧ b < w.heap.size ∧ w.cell? ⟨b, off + k * 2, none⟩ = some (.string (tAt ps k)) ∧ w.cell? ⟨b, off + k * 2 + 1, none⟩ = some (.int .i64 (mAt ps k)) := by
  obtain ⟨h1, h2, h3, h4⟩ := h
  obtain ⟨b, off, e, hb, hc⟩ := h4 (by omega)
  exact ⟨b, off, e, hb, (hc k hk).1, (hc k hk).2⟩

set_option maxRecDepth 100000 in
set_option maxHeartbeats 2000000 in
/-- **spec.l3Fits**. -/
theorem specFits_as (a : Option Addr) (len cap : Nat) (ps : List Pl) (n : Int) (v : Bool) (w : World) (h : IsPiles w a len cap ps) (hs : Small ps) (hv : fitsB ps n = v) :
    Calls Try.prog 48 #[.slice a len cap, .int .i64 n] w fun e w' => e = .returned (.bool v) ∧ Below w.heap.size w w' := by
  have HI := Lib.hid h
  have HS := Lib.hid hs
  have HV := Lib.hid hv
  have H1 := Lib.hid h.1
  have hlm := h.2.2.1
  clear h hs hv
  obtain ⟨G, hG⟩ : ∃ G, w.heap.size = G := ⟨_, rfl⟩
  go_enter Try.func48, Try.ntmps48
  go_wp2
  go_loopw [5, 6, 7] (fun i _ _ wr => ∃ k : Nat, k ≤ len ∧ i = .int .i64 k ∧ Hid (∀ j, j < k → validB (parseL (tAt ps j)) n = true) ∧ Below G w wr) (fun i _ _ _ => len - (intOf i).toNat)
  case atStart => exact ⟨0, Nat.zero_le _, rfl, fun j hj => by omega, Below.refl _ _⟩
  case round =>
    obtain ⟨k, hk, rfl, hA, hB⟩ := hrel
    have hBw : Below w.heap.size w wr := hG.symm ▸ hB
    by_cases hlt : k < len
    · obtain ⟨b, off, rfl, hb, c0, -⟩ := (HI.out.below hBw).at_text hlt
      obtain ⟨t, ht⟩ : ∃ t, tAt ps k = t := ⟨_, rfl⟩
      obtain ⟨pl, hpl⟩ : ∃ pl, parseL t = pl := ⟨_, rfl⟩
      obtain ⟨u, hu⟩ : ∃ u, validB pl n = u := ⟨_, rfl⟩
      have hst : t.size ≤ 1048600 := by rw [← ht]; exact HS.out k
      have hl5 : pl.length ≤ 5 := by rw [← hpl]; exact parseL_short t
      rw [ht] at c0
      have HT := Lib.hid ht
      have HPL := Lib.hid hpl
      have HU := Lib.hid hu
      clear ht hpl hu hBw
      go_wp2_with fail
      refine (specParse_as t pl _ _ hst HPL.out rfl).mono ?_
      rintro e w3 ⟨a3, c3, rfl, ho3, hb3⟩
      have I3 := Lib.hid (IsInts.of_owned ho3 (by omega))
      have B3 := Lib.hid (hB.trans (hb3.mono (by have := hB.size; rw [hG] at this; exact this)))
      clear ho3 hb3
      go_wp2_with fail
      refine (specValid_any _ _ _ pl n _ I3.out).mono ?_
      rintro e w4 ⟨he, hd⟩
      rw [HU.out] at he
      subst he
      have B4 := Lib.hid (B3.out.trans (hd.below _))
      clear hd
      have HN : Hid (validB (parseL (tAt ps k)) n = u) := by unfold Hid; rw [HT.out, HPL.out, HU.out]
      cases u
      · go_wp2
        go_ret
        exact ⟨ret_bool (by rw [← HV.out]; exact (fits_no (by rw [H1.out]; exact hlt) HN.out).symm), hG.symm ▸ B4.out⟩
      · go_wp2
        go_roundw
        case rel =>
          refine ⟨k + 1, by omega, by go_num, fun j hj => ?_, B4.out⟩
          by_cases e : j = k
          · subst e; exact HN.out
          · exact hA.out j (by omega)
        case measure => simp [intOf]; omega
    · obtain rfl : k = len := by omega
      have HE : Hid (fitsB ps n = (pilesB ps && inB n 1 5)) := fits_all (fun i hi => hA.out i (by rw [← H1.out]; exact hi))
      cases hp : pilesB ps
      · have HP := Lib.hid hp; clear hp
        go_wp2_with fail
        refine (specPiles_as _ _ _ ps false _ (HI.out.below hBw) HS.out HP.out).mono ?_
        rintro e w3 ⟨rfl, hb3⟩
        have B3 := Lib.hid (hB.trans (hb3.mono (by have := hB.size; rw [hG] at this; exact this)))
        clear hb3
        go_wp2
        go_ret
        exact ⟨ret_bool (by rw [← HV.out, HE.out, HP.out]; rfl), hG.symm ▸ B3.out⟩
      · have HP := Lib.hid hp; clear hp
        go_wp2_with fail
        refine (specPiles_as _ _ _ ps true _ (HI.out.below hBw) HS.out HP.out).mono ?_
        rintro e w3 ⟨rfl, hb3⟩
        have B3 := Lib.hid (hB.trans (hb3.mono (by have := hB.size; rw [hG] at this; exact this)))
        clear hb3
        go_wp2_with fail
        refine (l6In_any _ _ _ _).mono ?_
        rintro e w4 ⟨rfl, rfl⟩
        go_wp2
        go_ret
        exact ⟨ret_bool (by rw [← HV.out, HE.out, HP.out]; rfl), hG.symm ▸ B3.out⟩

end Go.Proofs.Ytaaamidkfhabnaa

namespace Go.Proofs.Ytaaamidkfhabnaa
open Go.RowKit

/-- The first k marks are in range. -/
def rankTo (zs : List Int) (k : Nat) : Bool := (List.range k).all fun i => inB (zs[i]?.getD 0) 0 9
theorem rankTo_succ (zs : List Int) (k : Nat) : rankTo zs (k + 1) = (rankTo zs k && inB (zs[k]?.getD 0) 0 9) := by
  simp [rankTo, List.range_succ]
theorem rankTo_no {zs : List Int} {k n : Nat} (h : rankTo zs (k + 1) = false) (hk : k < n) : rankTo zs n = false := by
  simp only [rankTo, List.all_eq_false, List.mem_range] at h ⊢
  obtain ⟨i, h1, h2⟩ := h
  exact ⟨i, by omega, h2⟩
/-- Marks are those of a form. -/
def rankB (zs : List Int) : Bool := rankTo zs zs.length && inB (zs.length : Int) 1 5
theorem rankB_len {zs : List Int} (h : rankB zs = true) : 1 ≤ zs.length ∧ zs.length ≤ 5 := by
  simp only [rankB, inB, Bool.and_eq_true, decide_eq_true_eq] at h
  omega
theorem rankB_at {zs : List Int} (h : rankB zs = true) (i : Nat) (hi : i < zs.length) : 0 ≤ zs[i]?.getD 0 ∧ zs[i]?.getD 0 ≤ 9 := by
  simp only [rankB, rankTo, inB, Bool.and_eq_true, decide_eq_true_eq, List.all_eq_true, List.mem_range] at h
  exact h.1 i hi

end Go.Proofs.Ytaaamidkfhabnaa

namespace Go.Proofs.Ytaaamidkfhabnaa

/-- How many readers have read the mark m at place c. -/
def cnt (rs : List (List Int)) (c : Nat) (m : Int) : Nat := rs.countP (fun r => r[c]?.getD 0 == m)
theorem cnt_nil (c : Nat) (m : Int) : cnt [] c m = 0 := rfl
theorem cnt_app (a b : List (List Int)) (c : Nat) (m : Int) : cnt (a ++ b) c m = cnt a c m + cnt b c m := by simp [cnt]
theorem cnt_one (r : List Int) (c : Nat) (m : Int) : cnt [r] c m = if r[c]?.getD 0 = m then 1 else 0 := by simp [cnt, List.countP_cons]
theorem cnt_take (rs : List (List Int)) (c : Nat) (m : Int) (k : Nat) (h : k < rs.length) : cnt (rs.take (k + 1)) c m = cnt (rs.take k) c m + (if (rs[k]?.getD [])[c]?.getD 0 = m then 1 else 0) := by
  rw [List.take_succ_eq_append_getElem h, cnt_app, cnt_one]
  simp [h]
theorem cnt_all (rs : List (List Int)) (c : Nat) (m : Int) : cnt (rs.take rs.length) c m = cnt rs c m := by rw [List.take_length]
theorem cnt_le (rs : List (List Int)) (c : Nat) (m : Int) : cnt rs c m ≤ rs.length := List.countP_le_length
theorem cnt_part (rs : List (List Int)) (c : Nat) (m : Int) (k : Nat) : cnt (rs.take k) c m ≤ cnt rs c m := by
  conv => rhs; rw [← List.take_append_drop k rs]
  rw [cnt_app]; omega
theorem cnt_two (rs : List (List Int)) (c : Nat) {m m' : Int} (h : m ≠ m') : cnt rs c m + cnt rs c m' ≤ rs.length := by
  induction rs with
  | nil => simp [cnt]
  | cons r t ih =>
    have e1 := cnt_app [r] t c m
    have e2 := cnt_app [r] t c m'
    rw [List.singleton_append] at e1 e2
    rw [e1, e2, cnt_one, cnt_one, List.length_cons]
    split <;> split <;> omega

/-- The greatest of the marks 0 .. k-1 that more than half of all readers have read, or -1. -/
def bestTo (rs : List (List Int)) (c : Nat) : Nat → Int
  | 0 => -1
  | k + 1 => if rs.length < 2 * cnt rs c (k : Int) then (k : Int) else bestTo rs c k
theorem bestTo_low (rs : List (List Int)) (c : Nat) : ∀ k : Nat, (∀ j : Nat, j < k → ¬ rs.length < 2 * cnt rs c (j : Int)) → bestTo rs c k = -1
  | 0, _ => rfl
  | k + 1, h => by rw [bestTo, if_neg (h k (by omega))]; exact bestTo_low rs c k (fun j hj => h j (by omega))
theorem bestTo_of (rs : List (List Int)) (c m : Nat) (h : rs.length < 2 * cnt rs c (m : Int)) : ∀ k, m < k → bestTo rs c k = (m : Int)
  | 0, h0 => by omega
  | k + 1, hk => by
    by_cases e : m = k
    · subst e; rw [bestTo, if_pos h]
    · have h2 := cnt_two rs c (m := (m : Int)) (m' := (k : Int)) (by omega)
      rw [bestTo, if_neg (by omega)]
      exact bestTo_of rs c m h k (by omega)
theorem bestTo_range (rs : List (List Int)) (c : Nat) : ∀ k, bestTo rs c k = -1 ∨ ∃ m : Nat, m < k ∧ bestTo rs c k = (m : Int) ∧ rs.length < 2 * cnt rs c (m : Int)
  | 0 => .inl rfl
  | k + 1 => by
    by_cases h : rs.length < 2 * cnt rs c (k : Int)
    · exact .inr ⟨k, by omega, by rw [bestTo, if_pos h], h⟩
    · rw [bestTo, if_neg h]
      rcases bestTo_range rs c k with e | ⟨m, hm, e, h2⟩
      · exact .inl e
      · exact .inr ⟨m, by omega, e, h2⟩
/-- The mark on which more than half of all readers agree at place c, or -1. -/
def bestB (rs : List (List Int)) (c : Nat) : Int := bestTo rs c 10
theorem bestB_range (rs : List (List Int)) (c : Nat) : bestB rs c = -1 ∨ ∃ m : Nat, m < 10 ∧ bestB rs c = (m : Int) ∧ rs.length < 2 * cnt rs c (m : Int) := bestTo_range rs c 10
theorem bestB_of {rs : List (List Int)} {c m : Nat} (hm : m < 10) (h : rs.length < 2 * cnt rs c (m : Int)) : bestB rs c = (m : Int) := bestTo_of rs c m h 10 hm
theorem bestB_none {rs : List (List Int)} {c : Nat} (h : ∀ m : Nat, m < 10 → ¬ rs.length < 2 * cnt rs c (m : Int)) : bestB rs c = -1 := bestTo_low rs c 10 h

/-- The first row. -/
def headL (rs : List (List Int)) : List Int := rs[0]?.getD []
def rowOk (rs : List (List Int)) (r : List Int) : Bool := rankB r && ((r.length : Int) == ((headL rs).length : Int))
def readTo (rs : List (List Int)) (k : Nat) : Bool := (List.range k).all fun i => rowOk rs (rs[i]?.getD [])
theorem readTo_succ (rs : List (List Int)) (k : Nat) : readTo rs (k + 1) = (readTo rs k && rowOk rs (rs[k]?.getD [])) := by simp [readTo, List.range_succ]
theorem readTo_no {rs : List (List Int)} {k n : Nat} (h : readTo rs (k + 1) = false) (hk : k < n) : readTo rs n = false := by
  simp only [readTo, List.all_eq_false, List.mem_range] at h ⊢
  obtain ⟨i, h1, h2⟩ := h
  exact ⟨i, by omega, h2⟩
/-- Readers are valid. -/
def readB (rs : List (List Int)) : Bool := readTo rs rs.length && inB (rs.length : Int) 1 5
theorem readB_iff (rs : List (List Int)) : readB rs = true ↔ (1 ≤ rs.length ∧ rs.length ≤ 5) ∧ (∀ r ∈ rs, rankB r = true) ∧ ∀ r ∈ rs, ∀ q ∈ rs, r.length = q.length := by
  simp only [readB, readTo, rowOk, inB, Bool.and_eq_true, List.all_eq_true, List.mem_range, decide_eq_true_eq, beq_iff_eq]
  constructor
  · rintro ⟨h, h1⟩
    have hall : ∀ r ∈ rs, rankB r = true ∧ r.length = (headL rs).length := by
      intro r hr
      obtain ⟨i, hi, rfl⟩ := List.mem_iff_getElem.1 hr
      have := h i hi
      simp only [hi, List.getElem?_eq_getElem, Option.getD_some] at this
      exact ⟨this.1, by omega⟩
    exact ⟨by omega, fun r hr => (hall r hr).1, fun r hr q hq => (hall r hr).2.trans (hall q hq).2.symm⟩
  · rintro ⟨h1, h2, h3⟩
    refine ⟨fun i hi => ?_, by omega⟩
    have e : rs[i]?.getD [] = rs[i] := by simp [hi]
    have e0 : headL rs = rs[0] := by simp [headL, show 0 < rs.length from by omega]
    rw [e, e0]
    exact ⟨h2 _ (List.getElem_mem hi), by rw [h3 _ (List.getElem_mem hi) _ (List.getElem_mem (show 0 < rs.length by omega))]⟩
theorem readB_len {rs : List (List Int)} (h : readB rs = true) : 1 ≤ rs.length ∧ rs.length ≤ 5 := ((readB_iff rs).1 h).1
theorem readB_row {rs : List (List Int)} (h : readB rs = true) (i : Nat) (hi : i < rs.length) : rankB (rs[i]?.getD []) = true ∧ (rs[i]?.getD []).length = (headL rs).length := by
  obtain ⟨h1, h2, h3⟩ := (readB_iff rs).1 h
  have e : rs[i]?.getD [] = rs[i] := by simp [hi]
  have e0 : headL rs = rs[0] := by simp [headL, show 0 < rs.length from by omega]
  rw [e, e0]
  exact ⟨h2 _ (List.getElem_mem hi), h3 _ (List.getElem_mem hi) _ (List.getElem_mem _)⟩
theorem readB_head {rs : List (List Int)} (h : readB rs = true) : 1 ≤ (headL rs).length ∧ (headL rs).length ≤ 5 := by
  have h1 := readB_len h
  have := readB_row h 0 (by omega)
  exact rankB_len this.1

/-- The marks at all places. -/
def bests (rs : List (List Int)) : List Int := (List.range (headL rs).length).map fun c => bestB rs c
theorem bests_length (rs : List (List Int)) : (bests rs).length = (headL rs).length := by simp [bests]
theorem bests_at (rs : List (List Int)) (c : Nat) (h : c < (headL rs).length) : (bests rs)[c]?.getD 0 = bestB rs c := by simp [bests, h]
/-- There is such a mark at each of the first k places. -/
def haveTo (rs : List (List Int)) (k : Nat) : Bool := (List.range k).all fun c => decide (0 ≤ bestB rs c)
theorem haveTo_succ (rs : List (List Int)) (k : Nat) : haveTo rs (k + 1) = (haveTo rs k && decide (0 ≤ bestB rs k)) := by simp [haveTo, List.range_succ]
theorem haveTo_no {rs : List (List Int)} {k n : Nat} (h : haveTo rs (k + 1) = false) (hk : k < n) : haveTo rs n = false := by
  simp only [haveTo, List.all_eq_false, List.mem_range] at h ⊢
  obtain ⟨i, h1, h2⟩ := h
  exact ⟨i, by omega, h2⟩
/-- All readers agree on all marks. -/
def agreeB (rs : List (List Int)) : Bool := readB rs && haveTo rs (headL rs).length
/-- What MarksAgree returns. -/
def agreeL (rs : List (List Int)) : List Int := if agreeB rs = true then bests rs else []
theorem agreeB_no {rs : List (List Int)} (h : readB rs = false) : agreeB rs = false := by simp [agreeB, h]
theorem agreeB_out {rs : List (List Int)} (h : haveTo rs (headL rs).length = false) : agreeB rs = false := by simp [agreeB, h]
theorem agreeB_yes {rs : List (List Int)} (h : readB rs = true) (h2 : haveTo rs (headL rs).length = true) : agreeB rs = true := by simp [agreeB, h, h2]
theorem agreeL_no {rs : List (List Int)} (h : agreeB rs = false) : agreeL rs = [] := by simp [agreeL, h]
theorem agreeL_yes {rs : List (List Int)} (h : agreeB rs = true) : agreeL rs = bests rs := by simp [agreeL, h]
theorem agreeB_both {rs : List (List Int)} (h : agreeB rs = true) : readB rs = true ∧ haveTo rs (headL rs).length = true := by simpa [agreeB] using h
theorem agreeL_short (rs : List (List Int)) : (agreeL rs).length ≤ 5 := by
  cases h : agreeB rs
  · simp [agreeL_no h]
  · rw [agreeL_yes h, bests_length]
    exact (readB_head (agreeB_both h).1).2
theorem have_at {rs : List (List Int)} (h : agreeB rs = true) (c : Nat) (hc : c < (headL rs).length) : ∃ m : Nat, m < 10 ∧ bestB rs c = (m : Int) ∧ rs.length < 2 * cnt rs c (m : Int) := by
  have h2 := (agreeB_both h).2
  simp only [haveTo, List.all_eq_true, List.mem_range, decide_eq_true_eq] at h2
  have h3 := h2 c hc
  rcases bestB_range rs c with e | h4
  · omega
  · exact h4
/-- What is agreed on are marks of a form. -/
theorem agreed_rank {rs : List (List Int)} (h : agreeB rs = true) : rankB (agreeL rs) = true := by
  have hh := readB_head (agreeB_both h).1
  rw [agreeL_yes h]
  simp only [rankB, rankTo, Bool.and_eq_true, List.all_eq_true, List.mem_range, inB, decide_eq_true_eq, bests_length]
  refine ⟨fun i hi => ?_, by omega⟩
  rw [bests_at rs i hi]
  obtain ⟨m, hm, e, _⟩ := have_at h i hi
  omega
/-- Readers who are all alike. -/
theorem agree_same {r : List Int} (hr : rankB r = true) (n : Nat) (h1 : 1 ≤ n) (h5 : n ≤ 5) : agreeB (List.replicate n r) = true ∧ agreeL (List.replicate n r) = r := by
  have hlen := rankB_len hr
  have hhead : headL (List.replicate n r) = r := by simp [headL, show 0 < n from h1]
  have hread : readB (List.replicate n r) = true := by
    rw [readB_iff]
    refine ⟨by simp; omega, fun q hq => ?_, fun q hq p hp => ?_⟩
    · rw [List.eq_of_mem_replicate hq]; exact hr
    · rw [List.eq_of_mem_replicate hq, List.eq_of_mem_replicate hp]
  have hb : ∀ c, c < r.length → bestB (List.replicate n r) c = r[c]?.getD 0 := by
    intro c hc
    have hat := rankB_at hr c hc
    obtain ⟨m, hm⟩ := Int.eq_ofNat_of_zero_le hat.1
    rw [hm]
    refine bestB_of (by omega) ?_
    have : cnt (List.replicate n r) c (m : Int) = n := by
      unfold cnt
      rw [List.countP_replicate]
      simp [hm]
    rw [this, List.length_replicate]; omega
  have hB : bests (List.replicate n r) = r := by
    apply List.ext_getElem
    · rw [bests_length, hhead]
    · intro i h1 h2
      simp only [bests, List.getElem_map, List.getElem_range]
      rw [hb i h2]; simp [h2]
  have hA : agreeB (List.replicate n r) = true := by
    refine agreeB_yes hread ?_
    simp only [haveTo, List.all_eq_true, List.mem_range, decide_eq_true_eq, hhead]
    intro c hc
    rw [hb c hc]
    exact (rankB_at hr c hc).1
  exact ⟨hA, by rw [agreeL_yes hA, hB]⟩

/-- The first reader as the last one. -/
def turnL (rs : List (List Int)) : List (List Int) := rs.drop 1 ++ [headL rs]
theorem turn_perm {rs : List (List Int)} (h : 0 < rs.length) : List.Perm (turnL rs) rs := by
  cases rs with
  | nil => simp at h
  | cons r t => simp [turnL, headL]
theorem readB_turn {rs : List (List Int)} (h : 0 < rs.length) : readB (turnL rs) = readB rs := by
  have hp := turn_perm h
  rw [Bool.eq_iff_iff, readB_iff, readB_iff, hp.length_eq]
  simp only [hp.mem_iff]
theorem cnt_turn {rs : List (List Int)} (h : 0 < rs.length) (c : Nat) (m : Int) : cnt (turnL rs) c m = cnt rs c m := (turn_perm h).countP_eq _
theorem bestTo_turn {rs : List (List Int)} (h : 0 < rs.length) (c : Nat) : ∀ k, bestTo (turnL rs) c k = bestTo rs c k
  | 0 => rfl
  | k + 1 => by rw [bestTo, bestTo, cnt_turn h, (turn_perm h).length_eq, bestTo_turn h c k]
theorem agree_turn {rs : List (List Int)} (h : 0 < rs.length) : agreeB (turnL rs) = agreeB rs ∧ agreeL (turnL rs) = agreeL rs := by
  have hb : ∀ c, bestB (turnL rs) c = bestB rs c := fun c => bestTo_turn h c 10
  cases hr : readB rs
  · have hr' : readB (turnL rs) = false := by rw [readB_turn h, hr]
    exact ⟨by rw [agreeB_no hr, agreeB_no hr'], by rw [agreeL_no (agreeB_no hr), agreeL_no (agreeB_no hr')]⟩
  · have hr' : readB (turnL rs) = true := by rw [readB_turn h, hr]
    have hp := turn_perm h
    have hl := (readB_iff rs).1 hr
    have hlen : (headL (turnL rs)).length = (headL rs).length := by
      have e1 : headL (turnL rs) ∈ turnL rs := by
        have : 0 < (turnL rs).length := by rw [hp.length_eq]; exact h
        simp [headL, this]
      have e2 : headL rs ∈ rs := by simp [headL, h]
      exact hl.2.2 _ (hp.mem_iff.1 e1) _ e2
    have hB : bests (turnL rs) = bests rs := by simp only [bests, hlen, hb]
    have hA : agreeB (turnL rs) = agreeB rs := by simp only [agreeB, hr, hr', haveTo, hlen, hb]
    exact ⟨hA, by simp only [agreeL, hA, hB]⟩

end Go.Proofs.Ytaaamidkfhabnaa

namespace Go.Proofs.Ytaaamidkfhabnaa
open Go.RowKit

/-- The slice value reads as the rows rs. -/
def IsRows (w : World) (a : Option Addr) (len cap : Nat) (rs : List (List Int)) : Prop :=
  rs.length = len ∧ len ≤ cap ∧ len ≤ 1048600 ∧ (0 < len → ∃ b off, a = some ⟨b, off, none⟩ ∧ b < w.heap.size ∧
    ∀ j, j < len → ∃ aj lj cj, w.cell? ⟨b, off + j, none⟩ = some (.slice aj lj cj) ∧ IsInts w aj lj cj (rs[j]?.getD []))

theorem IsRows.below {w w' : World} {a : Option Addr} {len cap : Nat} {rs : List (List Int)} (h : IsRows w a len cap rs) (hb : Below w.heap.size w w') : IsRows w' a len cap rs := by
  obtain ⟨h1, h2, h3, h4⟩ := h
  refine ⟨h1, h2, h3, fun hl => ?_⟩
  obtain ⟨b, off, e, hlt, hc⟩ := h4 hl
  refine ⟨b, off, e, Nat.lt_of_lt_of_le hlt hb.size, fun j hj => ?_⟩
  obtain ⟨aj, lj, cj, hcj, hj2⟩ := hc j hj
  exact ⟨aj, lj, cj, (hb.cell (p := ⟨b, off + j, none⟩) hlt).trans hcj, hj2.below hb⟩
theorem IsRows.dr {w w' : World} {a : Option Addr} {len cap : Nat} {rs : List (List Int)} (h : IsRows w a len cap rs) (hd : Dr w w') : IsRows w' a len cap rs := h.below (hd.below _)

/-- All rows have at least c + 1 ints. -/
def Wide (rs : List (List Int)) (c : Nat) : Prop := ∀ i, i < rs.length → c < (rs[i]?.getD []).length

end Go.Proofs.Ytaaamidkfhabnaa

namespace Go.Proofs.Ytaaamidkfhabnaa
open Go.RowKit

theorem owns_under {w w' : World} {base n size : Nat} {e : TypeId} {v : Value} {xs : List Value} (h : w.ownsRow base e size v n xs) (hb : Below w.heap.size w w') : w'.ownsRow base e size v n xs := by
  refine h.kept (row := none) ⟨hb.os, hb.tape, hb.output, hb.size, fun k hk _ => hb.block k hk⟩ ?_
  cases v.ownBlock <;> simp

/-- What is told of a list that is returned with a bool. -/
def Told (w : World) (pl : List Int) (ok : Bool) (e : Ending) (w' : World) : Prop := ∃ a cap, e = .returned (.tuple #[.slice a pl.length cap, .bool ok]) ∧ w'.ownsRow w.heap.size 3 1 (.slice a pl.length cap) pl.length (pl.map (Value.int .i64)) ∧ Below w.heap.size w w'

theorem zeros_made (n : Nat) : (madeCells (Value.int .i64 0).cells (n * 1)).toList = (List.replicate n (0 : Int)).map (Value.int .i64) := by
  rw [show (Value.int .i64 0).cells = #[.int .i64 0] from rfl, toList_madeCells_one]; simp
theorem map_set_int (l : List Int) (i : Nat) (z : Int) : (l.map (Value.int .i64)).set i (.int .i64 z) = (l.set i z).map (Value.int .i64) := by rw [List.map_set]

end Go.Proofs.Ytaaamidkfhabnaa
