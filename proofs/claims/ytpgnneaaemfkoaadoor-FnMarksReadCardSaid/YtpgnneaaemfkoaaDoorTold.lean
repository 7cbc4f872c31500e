/-
  A list that a call returns with a bool (Told); a block of the call's own is kept. No condition but what each theorem says.
-/
import Derived.Test.YtpgnneaaemfkoaaDoorOwn
import Derived.Deep.Onto
namespace Go.Proofs.YtpgnneaaemfkoaaDoor
open Go.RowKit

theorem owns_under {w w' : World} {base n size : Nat} {e : TypeId} {v : Value} {xs : List Value} (h : w.ownsRow base e size v n xs) (hb : Below w.heap.size w w') : w'.ownsRow base e size v n xs := by
  refine h.kept (row := none) ⟨hb.os, hb.tape, hb.output, hb.size, fun k hk _ => hb.block k hk⟩ ?_
  cases v.ownBlock <;> simp

/-- What is told of a list that is returned with a bool. -/
def Told (w : World) (pl : List Int) (ok : Bool) (e : Ending) (w' : World) : Prop := ∃ a cap, e = .returned (.tuple #[.slice a pl.length cap, .bool ok]) ∧ w'.ownsRow w.heap.size 3 1 (.slice a pl.length cap) pl.length (pl.map (Value.int .i64)) ∧ Below w.heap.size w w'

theorem zeros_made (n : Nat) : (madeCells (Value.int .i64 0).cells (n * 1)).toList = (List.replicate n (0 : Int)).map (Value.int .i64) := by
  rw [show (Value.int .i64 0).cells = #[.int .i64 0] from rfl, toList_madeCells_one]; simp
theorem map_set_int (l : List Int) (i : Nat) (z : Int) : (l.map (Value.int .i64)).set i (.int .i64 z) = (l.set i z).map (Value.int .i64) := by rw [List.map_set]

end Go.Proofs.YtpgnneaaemfkoaaDoor
