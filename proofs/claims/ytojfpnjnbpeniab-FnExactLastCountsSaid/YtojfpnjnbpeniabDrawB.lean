/-
  The drawn ballots (l91Ballot): a new slice of at most ten ints, and a reader that has gone on. No condition but what each theorem says.
-/
import Derived.Test.YtojfpnjnbpeniabGrp3
import Derived.Test.YtojfpnjnbpeniabGrp4
import Derived.Deep.RegionLaw
import Derived.Deep.AppendLies
import Derived.Deep.RegionWith
import Derived.Laws.IdiomStrings
namespace Go.Proofs.Ytojfpnjnbpeniab
open Go.RowKit

/-- One of three. -/
def p3 (x : Int) (d : Nat) : Int := if d = 0 then x else if d = 1 then -1 else 5
theorem p3_at (x : Int) (d : Nat) (h : d < 3) : (#[Value.int .i64 x, .int .i64 (-1), .int .i64 5] : Array Value)[d]? = some (.int .i64 (p3 x d)) := by
  have e : d = 0 ∨ d = 1 ∨ d = 2 := by omega
  rcases e with rfl | rfl | rfl <;> simp [p3]
theorem p3_cell (w : World) (t : TypeId) (x : Int) (d : Nat) (h : d < 3) : (w.alloc (.cells #[.int .i64 x, .int .i64 (-1), .int .i64 5] t)).cell? ⟨w.heap.size, d, none⟩ = some (.int .i64 (p3 x d)) :=
  (World.cell?_alloc_mark w _ t (0, 0) d).trans (p3_at x d h)
theorem p3_one (w : World) (o : Obj) (v : Value) (t : TypeId) : ∀ j u, [v][j]? = some u → ((w.alloc o).alloc (.cells #[v] t)).cell? ((⟨w.heap.size + 1, 0, none⟩ : Addr).add j) = some u := by
  have := cell_one_new (w.alloc o) v t
  rwa [World.size_alloc] at this
/-- A ballot that was drawn: in memory of the call's own; the reader has gone on. -/
def Drawn (R p : Nat) (w : World) (e : Ending) (w' : World) : Prop := ∃ (zs : List Int) (a : Option Addr) (cap p' : Nat), e = .returned (.slice a zs.length cap) ∧ w'.ownsRow w.heap.size 3 1 (.slice a zs.length cap) zs.length (zs.map (Value.int .i64)) ∧ zs.length ≤ 10 ∧ Rd w' R p' ∧ p' ≤ p + 20 ∧ Step R w w'

end Go.Proofs.Ytojfpnjnbpeniab
