/-
  A region that draws its order, whose operations only read what was there and whose callees write nothing that was there: one walk, in the order of the text. No function of the seat.
-/
import Derived.Test.YtoancpdiilofmaaDoorBase
import Derived.BigQuiet
namespace Go.Proofs.YtoancpdiilofmaaDoor
open Go.RowKit

/-- The worlds in which nothing that was in W has turned. -/
def Beh (W : World) : Type := { w : World // Below W.heap.size W w }
def Beh.w {W : World} (u : Beh W) : World := u.1
instance beh_some (W : World) : Nonempty (Beh W) := ⟨⟨W, Below.refl _ _⟩⟩
theorem Beh.below {W : World} (u : Beh W) : Below W.heap.size W u.w := u.2
theorem Beh.cell {W : World} {b o : Nat} {v : Value} (h : W.cell? ⟨b, o, none⟩ = some v) (hb : b < W.heap.size) (u : Beh W) : u.w.cell? ⟨b, o, none⟩ = some v := (u.below.cell (p := ⟨b, o, none⟩) hb).trans h
theorem wp_region_below {P : Program} {id : Nat} {Q : Exit → Act → World → Prop} {a : Act} {w : World} {l : List Oper} (hm : P.follows .mixedOrders = true) (hB : Region.lexB .any l.toArray = true)
    (h : wpQuiet P l.toArray (fun w' => ∃ u : Beh w, w' = u.w) (fun a' => ∀ w', (∃ u : Beh w, w' = u.w) → Q .normal a' w') l a) : (Code.region id l.toArray true).wp P Q a w :=
  wp_region_quiet (C := fun w' => ∃ u : Beh w, w' = u.w) hm hB ⟨⟨w.drew, (Below.refl _ _).drew⟩, rfl⟩ (by simpa using h)
theorem Calls.beh {P : Program} {f : FuncId} {args : Array Value} {W : World} {u : Beh W} {v : Value}
    (h : Calls P f args u.w fun e w' => e = .returned v ∧ Below u.w.heap.size u.w w') : Calls P f args u.w fun e w'' => e = .returned v ∧ ∃ u' : Beh W, w'' = u'.w :=
  h.mono fun _ w' ⟨he, hb⟩ => ⟨he, ⟨w', u.below.trans (hb.mono u.below.size)⟩, rfl⟩
theorem Calls.behDr {P : Program} {f : FuncId} {args : Array Value} {W : World} {u : Beh W} {v : Value}
    (h : Calls P f args u.w fun e w' => e = .returned v ∧ Dr u.w w') : Calls P f args u.w fun e w'' => e = .returned v ∧ ∃ u' : Beh W, w'' = u'.w :=
  Calls.beh (h.mono fun _ _ ⟨he, hd⟩ => ⟨he, hd.below _⟩)
theorem Calls.behSame {P : Program} {f : FuncId} {args : Array Value} {W : World} {u : Beh W} {v : Value}
    (h : Calls P f args u.w fun e w' => e = .returned v ∧ u.w = w') : Calls P f args u.w fun e w'' => e = .returned v ∧ ∃ u' : Beh W, w'' = u'.w :=
  Calls.beh (h.mono fun _ _ ⟨he, hd⟩ => ⟨he, by subst hd; exact Below.refl _ _⟩)

end Go.Proofs.YtoancpdiilofmaaDoor
