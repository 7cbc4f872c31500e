/-
  Counts of depths, as lists: a greater depth, all named candidates, the least depth of a majority, its winner. Of no memory.
  Whom a ballot prefers, as lists. Of no memory.
  Preferences of pairs as a table of numbers: whom one reaches, the strongest paths, the top, the best ones. Of no memory.
  A table is a function of two candidates; a stage of the program, which writes in place, is the same as one that writes anew: its row and its column keep their numbers.
  Preferences of pairs are counted, as lists: of parts, of merged piles, with two candidates exchanged; the winner of pairs. Of no memory.
  Counts of places and of last places, as lists: places are preferences, candidates exchanged, full ballots. Of no memory.
  Counts of points: each ballot gives a candidate what the place is worth at which it names this one. Of no memory.
  Piles that fit, pile by pile, and bounds for what is counted in them. Of no memory.
  The greatest of some counts that are not negative: as the program finds it, and as the given functions do. Of no memory.
-/
import Derived.Test.YtgkakgibgfehaaaSh24
import Derived.Test.YtgkakgibgfehaaaValidP
import Derived.Test.YtgkakgibgfehaaaSh3
import Derived.Test.YtgkakgibgfehaaaSh23
import Derived.Test.YtgkakgibgfehaaaSh8
namespace Go.Proofs.Ytgkakgibgfehaaa

end Go.Proofs.Ytgkakgibgfehaaa

namespace Go.Proofs.Ytgkakgibgfehaaa

end Go.Proofs.Ytgkakgibgfehaaa

namespace Go.Proofs.Ytgkakgibgfehaaa

/-! ### Whom one reaches. -/
def stageB (R : Nat → Nat → Bool) (k : Nat) : Nat → Nat → Bool := fun x y => R x y || (R x k && R k y)
def reachTo (R : Nat → Nat → Bool) : Nat → Nat → Nat → Bool
  | 0 => R
  | k + 1 => stageB (reachTo R k) k
theorem reachTo_succ (R : Nat → Nat → Bool) (k : Nat) : reachTo R (k + 1) = stageB (reachTo R k) k := rfl
theorem reach_step {R : Nat → Nat → Bool} {x y : Nat} (h : R x y = true) : ∀ k, reachTo R k x y = true
  | 0 => h
  | k + 1 => by rw [reachTo_succ]; unfold stageB; rw [reach_step h k]; rfl
/-! ### The strongest paths. -/
/-- The table of steps. -/
def steps (m : Nat → Nat → Int) : Nat → Nat → Int := fun x y => if m y x < m x y then m x y else 0
end Go.Proofs.Ytgkakgibgfehaaa

namespace Go.Proofs.Ytgkakgibgfehaaa

end Go.Proofs.Ytgkakgibgfehaaa

namespace Go.Proofs.Ytgkakgibgfehaaa

end Go.Proofs.Ytgkakgibgfehaaa

namespace Go.Proofs.Ytgkakgibgfehaaa

theorem fits_both {ps : List Pl} {n : Int} (h : fitsB ps n = true) : pilesB ps = true ∧ ∀ p ∈ ps, validB (nums p.1) 5 = true ∧ validB (nums p.1) n = true := by
  simp only [fitsB, Bool.and_eq_true, List.all_eq_true] at h
  exact ⟨h.1, fun p hp => ⟨(pilesB_pos h.1).2.2.2.1 p hp, h.2.2 p hp⟩⟩
theorem wsum_bound {f : ByteArray → Int} : ∀ {ps : List Pl}, (∀ p ∈ ps, (0 ≤ f p.1 ∧ f p.1 ≤ 5) ∧ 0 ≤ p.2 ∧ p.2 ≤ 99) → 0 ≤ wsum f ps ∧ wsum f ps ≤ 495 * ps.length
  | [], _ => by rw [wsum_nil]; simp
  | p :: ps, h => by
    have ih := wsum_bound (f := f) (ps := ps) (fun q hq => h q (by simp [hq]))
    obtain ⟨hf, hp⟩ := h p (by simp)
    have h0 : 0 ≤ f p.1 * p.2 := Int.mul_nonneg hf.1 hp.1
    have h1 : f p.1 * p.2 ≤ 5 * 99 := Int.mul_le_mul hf.2 hp.2 hp.1 (by omega)
    rw [wsum_cons, List.length_cons]
    omega
end Go.Proofs.Ytgkakgibgfehaaa

namespace Go.Proofs.Ytgkakgibgfehaaa
/-- A pile that fits. -/
def FitP (L : List Bool) (p : Pl) : Prop := validB (nums p.1) 5 = true ∧ validB (nums p.1) (L.length : Int) = true ∧ 1 ≤ p.2 ∧ p.2 ≤ 99
theorem counts_range {L : List Bool} {a : List Pl} (ha : ∀ p ∈ a, FitP L p) {k : Nat} (hk : k < L.length) : 0 ≤ (countsL a L)[k]?.getD 0 ∧ (countsL a L)[k]?.getD 0 ≤ 495 * a.length := by
  rw [countsL_at _ _ hk]
  exact wsum_bound fun p hp => by
    obtain ⟨-, -, h1, h2⟩ := ha p hp
    have := oneF_low L k p.1
    have := oneF_high L k p.1
    exact ⟨⟨by omega, by omega⟩, by omega, by omega⟩
theorem fits_fitP {ps : List Pl} {L : List Bool} (h : fitsB ps (L.length : Int) = true) : (∀ p ∈ ps, FitP L p) ∧ ps.length ≤ 12 ∧ 1 ≤ L.length ∧ L.length ≤ 5 := by
  obtain ⟨h1, h2⟩ := fits_both h
  obtain ⟨-, k1, k2, -, k4⟩ := pilesB_pos h1
  have h3 : inB (L.length : Int) 1 5 = true := by
    unfold fitsB at h
    simp only [Bool.and_eq_true] at h
    exact h.2.1
  simp only [inB, decide_eq_true_eq] at h3
  exact ⟨fun p hp => ⟨(h2 p hp).1, (h2 p hp).2, k1 p hp, k2 p hp⟩, k4, by omega, by omega⟩
theorem fitP_counts {ps : List Pl} {L : List Bool} (h : fitsB ps (L.length : Int) = true) (i k : Nat) : 0 ≤ (countsL (ps.take i) L)[k]?.getD 0 ∧ (countsL (ps.take i) L)[k]?.getD 0 ≤ 5940 := by
  obtain ⟨h1, h2, -, -⟩ := fits_fitP h
  by_cases hk : k < L.length
  · have := counts_range (L := L) (a := ps.take i) (fun p hp => h1 p (List.mem_of_mem_take hp)) hk
    rw [List.length_take] at this
    omega
  · rw [List.getElem?_eq_none (by rw [countsL_length]; omega)]
    simp
theorem firstL_range {zs : List Int} {L : List Bool} (h : validB zs (L.length : Int) = true) : firstL zs L = -1 ∨ (0 ≤ firstL zs L ∧ firstL zs L < (L.length : Int)) := by
  rcases firstL_mem zs L with g | g
  · exact .inl g
  · exact .inr ((vB_mem h).2.2 _ g)
/-- One pile more in the counts. -/
theorem counts_next {ps : List Pl} {L : List Bool} {i : Nat} (hi : i < ps.length) {k : Int} (hk : firstL (parseL (tAt ps i)) L = k) (hr : k = -1 ∨ (0 ≤ k ∧ k < (L.length : Int))) :
    countsL (ps.take (i + 1)) L = if k < 0 then countsL (ps.take i) L else (countsL (ps.take i) L).set k.toNat ((countsL (ps.take i) L)[k.toNat]?.getD 0 + mAt ps i) := by
  have e0 : ps[i] = (tAt ps i, mAt ps i) := by simp [tAt, mAt, hi]
  rw [List.take_succ_eq_append_getElem hi, e0]
  rcases hr with rfl | ⟨h0, h1⟩
  · rw [if_pos (by omega)]
    exact countsL_miss (by rw [hk]; omega)
  · rw [if_neg (by omega)]
    obtain ⟨x, rfl⟩ := Int.eq_ofNat_of_zero_le h0
    exact countsL_hit (by omega) hk
end Go.Proofs.Ytgkakgibgfehaaa

namespace Go.Proofs.Ytgkakgibgfehaaa

end Go.Proofs.Ytgkakgibgfehaaa
