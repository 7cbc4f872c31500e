/-
  What the drawn statements of seats get: votes, a number of seats, a method, lots (DrawSeatsDivisor).
-/
import Derived.Test.YtbcemgmfkddafaaDrawSv
namespace Go.Proofs.Ytbcemgmfkddafaa
open Go.RowKit

attribute [local go_sem] Oper.semAt_some

def s3 (d : Nat) : Int := if d = 0 then -1 else if d = 1 then 20 else 21
theorem s3_cell (w : World) (t : TypeId) (d : Nat) (h : d < 3) : (w.alloc (.cells #[.int .i64 (-1), .int .i64 20, .int .i64 21] t)).cell? ⟨w.heap.size, d, none⟩ = some (.int .i64 (s3 d)) := by
  refine (World.cell?_alloc_mark w _ t (0, 0) d).trans ?_
  have e : d = 0 ∨ d = 1 ∨ d = 2 := by omega
  rcases e with rfl | rfl | rfl <;> simp [s3]
theorem s3_range (d : Nat) : -1 ≤ s3 d ∧ s3 d ≤ 21 := by unfold s3; split <;> (try split) <;> omega
theorem s3_step {R : Nat} {w w' : World} {t : TypeId} (hs : Step R (w.alloc (.cells #[.int .i64 (-1), .int .i64 20, .int .i64 21] t)) w') (hR : w.heap.size ≠ R) {d : Nat} (hd : d < 3) : w'.cell? ⟨w.heap.size, d, none⟩ = some (.int .i64 (s3 d)) :=
  step_cell hs (by simp) hR (s3_cell w t d hd)
theorem s3_step_drew {R : Nat} {w w' : World} {t : TypeId} (hs : Step R (w.alloc (.cells #[.int .i64 (-1), .int .i64 20, .int .i64 21] t)).drew w') (hR : w.heap.size ≠ R) {d : Nat} (hd : d < 3) : w'.cell? ⟨w.heap.size, d, none⟩ = some (.int .i64 (s3 d)) :=
  s3_step (Step.of_drew hs) hR hd
theorem s3_get (d : Nat) (h : d < 3) : ([Value.int .i64 (-1), .int .i64 20, .int .i64 21] : List Value)[d]? = some (.int .i64 (s3 d)) := by
  have e : d = 0 ∨ d = 1 ∨ d = 2 := by omega
  rcases e with rfl | rfl | rfl <;> simp [s3]

/-- What is drawn of votes, seats, a method and lots. -/
def DrewSD (w : World) (e : Ending) (w' : World) : Prop := ∃ (zs : List Int) (a : Option Addr) (c : Nat) (s m : Int) (lots : List Int) (al : Option Addr) (cl : Nat), e = .returned (.tuple #[.slice a zs.length c, .int .i64 s, .int .i64 m, .slice al lots.length cl]) ∧
  w'.ownsRow w.heap.size 3 1 (.slice a zs.length c) zs.length (zs.map (Value.int .i64)) ∧ zs.length ≤ 5 ∧ w'.ownsRow w.heap.size 3 1 (.slice al lots.length cl) lots.length (lots.map (Value.int .i64)) ∧ lots.length ≤ 5 ∧ (-1 ≤ s ∧ s ≤ 21) ∧ (0 ≤ m ∧ m ≤ 3) ∧ Below w.heap.size w w'

end Go.Proofs.Ytbcemgmfkddafaa
