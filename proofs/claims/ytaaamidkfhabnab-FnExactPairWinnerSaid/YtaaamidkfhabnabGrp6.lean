/-
  What the drawn statements of piles get: DrawPilesValid, DrawPilesTotal, DrawPilesMerge, DrawPilesTurn, DrawPilesAdd.
  What the drawn statements of piles get: DrawPilesAdd.
  samePiles: whether two lists of piles are equal.
-/
import Derived.Test.YtaaamidkfhabnabDrawPl
import Derived.Deep.RegionLaw
import Derived.Deep.AppendLies
import Derived.Test.YtaaamidkfhabnabGrp5
import Derived.Laws.StructEq
namespace Go.Proofs.Ytaaamidkfhabnab
open Go.RowKit

/-- A list of piles of the call's own. -/
def HasP (w0 w : World) (ps : List Pl) (g cap : Nat) : Prop := w.ownsRow w0.heap.size 45 2 (.slice (some ⟨g, 0, none⟩) ps.length cap) ps.length (cellsP ps) ∧ Small ps ∧ Few ps ∧ ps.length ≤ 13
theorem HasP.below {w0 w w' : World} {ps : List Pl} {g cap : Nat} (h : HasP w0 w ps g cap) (hb : Below w.heap.size w w') : HasP w0 w' ps g cap := ⟨owns_below h.1 hb, h.2⟩
theorem HasP.piles {w0 w : World} {ps : List Pl} {g cap : Nat} (h : HasP w0 w ps g cap) : IsPiles w (some ⟨g, 0, none⟩) ps.length cap ps := IsPiles.of_owned h.1 (by have := h.2.2.2; omega)
theorem HasP.lt {w0 w : World} {ps : List Pl} {g cap : Nat} (h : HasP w0 w ps g cap) : g < w.heap.size := (h.1.lt g rfl).2

end Go.Proofs.Ytaaamidkfhabnab

namespace Go.Proofs.Ytaaamidkfhabnab
open Go.RowKit

/-- One of the numbers 0, 99, 100, 95. -/
def p4 (d : Nat) : Int := if d = 0 then 0 else if d = 1 then 99 else if d = 2 then 100 else 95
theorem p4_range (d : Nat) : 0 ≤ p4 d ∧ p4 d ≤ 100 := by unfold p4; split <;> (try split) <;> (try split) <;> omega
theorem p4_cell (w : World) (T : TypeId) (d : Nat) (hd : d < 4) : (w.alloc (.cells #[.int .i64 0, .int .i64 99, .int .i64 100, .int .i64 95] T)).cell? ⟨w.heap.size, d, none⟩ = some (.int .i64 (p4 d)) := by
  rw [World.cell?_alloc_new]
  have : d = 0 ∨ d = 1 ∨ d = 2 ∨ d = 3 := by omega
  rcases this with rfl | rfl | rfl | rfl <;> rfl

end Go.Proofs.Ytaaamidkfhabnab

namespace Go.Proofs.Ytaaamidkfhabnab
open Go.RowKit

def eqP (xs ys : List Pl) : Bool := decide (xs = ys)
theorem eqP_self (xs : List Pl) : eqP xs xs = true := by simp [eqP]
theorem takeP_step {xs ys : List Pl} {k : Nat} (hx : k < xs.length) (hy : k < ys.length) (h : xs.take k = ys.take k) (ht : tAt xs k = tAt ys k) (hm : mAt xs k = mAt ys k) : xs.take (k + 1) = ys.take (k + 1) := by
  rw [take_one hx, take_one hy, h, ht, hm]
theorem takeP_part {xs ys : List Pl} {k : Nat} (h : ¬ (tAt xs k = tAt ys k ∧ mAt xs k = mAt ys k)) : eqP xs ys = false := by
  simp only [eqP, decide_eq_false_iff_not]
  rintro rfl
  exact h ⟨rfl, rfl⟩

theorem pile_under : Try.prog.underlying 45 = some (.struct (Try.prog.fieldsOf 45)) := by kernel_rfl
theorem pile_stood : Try.prog.stoodInHeld 45 = false := by kernel_rfl
theorem pile_guard : Try.prog.eqGuardType Try.prog.depth 45 = false := by kernel_rfl
theorem text_ne {a b : ByteArray} (h : ¬ a = b) : ¬ a.toList = b.toList := fun e => h (list_text e)

theorem run_neqP (t1 t2 : ByteArray) (m1 m2 : Int) (v : Bool) (hv : (!(decide (t1 = t2) && decide (m1 = m2))) = v) (w : World) : (binOp .neq 45 (.agg #[.string t1, .int .i64 m1]) (.agg #[.string t2, .int .i64 m2])).run Try.prog w = .ok (.bool v) w := by
  subst hv
  rw [run_neq_struct, run_equalIn_agg _ _ _ _ _ pile_under pile_stood]
  simp [go_sem, Program.fieldsOf, Try.underlying45, Try.underlying9, Try.underlying3, Op.eqFields]
  by_cases h : t1 = t2
  · subst h
    by_cases h2 : m1 = m2 <;> simp [h2]
  · simp [text_ne h, h]
theorem run_guardP (x y : Operand) (xs ys : Array Value) (w : World) : (eqGuard .neq 45 x y (.agg xs) (.agg ys)).run Try.prog w = .ok () w := run_eqGuard_agg w .neq _ x y xs ys pile_guard

end Go.Proofs.Ytaaamidkfhabnab
