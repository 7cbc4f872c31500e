/-
  Warshall's loops in place: what the table holds within a stage. Of no memory.
-/
import Derived.Test.YtaaamidkfhabnaaGrp8
namespace Go.Proofs.Ytaaamidkfhabnaa

/-- Within stage k: the rows before x, and the first y cells of row x, are written. -/
def curI (M : Nat → Nat → Int) (k x y : Nat) : Nat → Nat → Int := fun i j => if i < x ∨ (i = x ∧ j < y) then stageI M k i j else M i j
theorem curI_at (M : Nat → Nat → Int) (k x y : Nat) : curI M k x y x y = M x y := by unfold curI; rw [if_neg (by omega)]
theorem curI_col (M : Nat → Nat → Int) (k x y : Nat) : curI M k x y x k = M x k := by unfold curI; split; exact stageI_col M k x; rfl
theorem curI_row (M : Nat → Nat → Int) (k x y : Nat) : curI M k x y k y = M k y := by unfold curI; split; exact stageI_row M k y; rfl
theorem curI_step {M : Nat → Nat → Int} {k x y i j : Nat} {v : Int} (h : v = stageI M k x y) : (if i = x ∧ j = y then v else curI M k x y i j) = curI M k x (y + 1) i j := by
  unfold curI
  by_cases e : i = x ∧ j = y
  · obtain ⟨rfl, rfl⟩ := e
    rw [if_pos ⟨rfl, rfl⟩, if_pos (by omega), h]
  · rw [if_neg e]
    by_cases e2 : i < x ∨ (i = x ∧ j < y)
    · rw [if_pos e2, if_pos (by omega)]
    · rw [if_neg e2, if_neg (by omega)]
theorem curI_same {M : Nat → Nat → Int} {k x y i j : Nat} (h : M x y = stageI M k x y) : curI M k x y i j = curI M k x (y + 1) i j := by
  have := curI_step (M := M) (k := k) (x := x) (y := y) (i := i) (j := j) h
  rw [← this]
  by_cases e : i = x ∧ j = y
  · obtain ⟨rfl, rfl⟩ := e; rw [if_pos ⟨rfl, rfl⟩, curI_at]
  · rw [if_neg e]
theorem curI_next {M : Nat → Nat → Int} {k x n i j : Nat} (hj : j < n) : curI M k x n i j = curI M k (x + 1) 0 i j := by
  unfold curI
  by_cases e : i < x ∨ (i = x ∧ j < n)
  · rw [if_pos e, if_pos (by omega)]
  · rw [if_neg e, if_neg (by omega)]
theorem curI_end {M : Nat → Nat → Int} {k n i j : Nat} (hi : i < n) : curI M k n 0 i j = stageI M k i j := by unfold curI; rw [if_pos (.inl hi)]
theorem curI_start (M : Nat → Nat → Int) (k i j : Nat) : curI M k 0 0 i j = M i j := by unfold curI; rw [if_neg (by omega)]

def curB (M : Nat → Nat → Bool) (k x y : Nat) : Nat → Nat → Bool := fun i j => if i < x ∨ (i = x ∧ j < y) then stageB M k i j else M i j
theorem curB_at (M : Nat → Nat → Bool) (k x y : Nat) : curB M k x y x y = M x y := by unfold curB; rw [if_neg (by omega)]
theorem curB_col (M : Nat → Nat → Bool) (k x y : Nat) : curB M k x y x k = M x k := by unfold curB; split; exact stageB_col M k x; rfl
theorem curB_row (M : Nat → Nat → Bool) (k x y : Nat) : curB M k x y k y = M k y := by unfold curB; split; exact stageB_row M k y; rfl
theorem curB_step {M : Nat → Nat → Bool} {k x y i j : Nat} {v : Bool} (h : v = stageB M k x y) : (if i = x ∧ j = y then v else curB M k x y i j) = curB M k x (y + 1) i j := by
  unfold curB
  by_cases e : i = x ∧ j = y
  · obtain ⟨rfl, rfl⟩ := e
    rw [if_pos ⟨rfl, rfl⟩, if_pos (by omega), h]
  · rw [if_neg e]
    by_cases e2 : i < x ∨ (i = x ∧ j < y)
    · rw [if_pos e2, if_pos (by omega)]
    · rw [if_neg e2, if_neg (by omega)]
theorem curB_same {M : Nat → Nat → Bool} {k x y i j : Nat} (h : M x y = stageB M k x y) : curB M k x y i j = curB M k x (y + 1) i j := by
  have := curB_step (M := M) (k := k) (x := x) (y := y) (i := i) (j := j) h
  rw [← this]
  by_cases e : i = x ∧ j = y
  · obtain ⟨rfl, rfl⟩ := e; rw [if_pos ⟨rfl, rfl⟩, curB_at]
  · rw [if_neg e]
theorem curB_next {M : Nat → Nat → Bool} {k x n i j : Nat} (hj : j < n) : curB M k x n i j = curB M k (x + 1) 0 i j := by
  unfold curB
  by_cases e : i < x ∨ (i = x ∧ j < n)
  · rw [if_pos e, if_pos (by omega)]
  · rw [if_neg e, if_neg (by omega)]
theorem curB_end {M : Nat → Nat → Bool} {k n i j : Nat} (hi : i < n) : curB M k n 0 i j = stageB M k i j := by unfold curB; rw [if_pos (.inl hi)]
theorem curB_start (M : Nat → Nat → Bool) (k i j : Nat) : curB M k 0 0 i j = M i j := by unfold curB; rw [if_neg (by omega)]

/-- A row of steps that is being filled. -/
def stepsTo (M : Nat → Nat → Int) (x y : Nat) : Nat → Int := fun j => if j < y then steps M x j else 0
theorem stepsTo_none (M : Nat → Nat → Int) {x y : Nat} (h : M x y ≤ M y x) (j : Nat) : stepsTo M x y j = stepsTo M x (y + 1) j := by
  unfold stepsTo
  by_cases e : j = y
  · subst e; rw [if_neg (Nat.lt_irrefl _), if_pos (Nat.lt_succ_self _)]; unfold steps; rw [if_neg (by omega)]
  · by_cases e2 : j < y
    · rw [if_pos e2, if_pos (by omega)]
    · rw [if_neg e2, if_neg (by omega)]
theorem stepsTo_some (M : Nat → Nat → Int) {x y : Nat} (h : M y x < M x y) (j : Nat) : (if j = y then M x y else stepsTo M x y j) = stepsTo M x (y + 1) j := by
  unfold stepsTo
  by_cases e : j = y
  · subst e; rw [if_pos rfl, if_pos (Nat.lt_succ_self _)]; unfold steps; rw [if_pos h]
  · rw [if_neg e]
    by_cases e2 : j < y
    · rw [if_pos e2, if_pos (by omega)]
    · rw [if_neg e2, if_neg (by omega)]

end Go.Proofs.Ytaaamidkfhabnaa
