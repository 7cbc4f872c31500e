/-
  Blocks of two ints that a function lays itself, behind calls. Of no function.
-/
import Derived.Test.YtoancpdiilofmaaDoorQB
import Derived.Handy
namespace Go.Proofs.YtoancpdiilofmaaDoor
open Go.RowKit

theorem lt_alloc (w : World) (o : Obj) : w.heap.size < (w.alloc o).heap.size := by simp
theorem le_alloc (w : World) (o : Obj) : w.heap.size ≤ (w.alloc o).heap.size := by simp
/-- Block g holds two ints. -/
structure Two (w : World) (g : Nat) (x y : Int) : Prop where
  lt : g < w.heap.size
  c0 : w.cell? ⟨g, 0, none⟩ = some (.int .i64 x)
  c1 : w.cell? ⟨g, 1, none⟩ = some (.int .i64 y)
  f0 : w.frozen? ⟨g, 0, none⟩ = false
  f1 : w.frozen? ⟨g, 1, none⟩ = false
theorem Two.new (w : World) (x y : Int) (t : TypeId) : Two (w.alloc (.cells #[.int .i64 x, .int .i64 y] t)) w.heap.size x y :=
  ⟨by simp, (World.cell?_alloc_mark w _ t (0, 0) 0).trans rfl, (World.cell?_alloc_mark w _ t (0, 0) 1).trans rfl, (World.frozen?_alloc_mark w _ t 0 0 0).trans rfl, (World.frozen?_alloc_mark w _ t 0 0 1).trans rfl⟩
theorem Two.at {w : World} {g g' : Nat} {x y : Int} (h : Two w g x y) (e : g = g') : Two w g' x y := by subst e; exact h
theorem Two.keep {w w' : World} {B g : Nat} {x y : Int} (h : Two w g x y) (hb : Below B w w') (hg : g < B) : Two w' g x y :=
  ⟨Nat.lt_of_lt_of_le h.lt hb.size, (hb.cell (p := ⟨g, 0, none⟩) hg).trans h.c0, (hb.cell (p := ⟨g, 1, none⟩) hg).trans h.c1, (hb.frozen (p := ⟨g, 0, none⟩) hg).trans h.f0, (hb.frozen (p := ⟨g, 1, none⟩) hg).trans h.f1⟩
theorem Two.below {w w' : World} {g : Nat} {x y : Int} (h : Two w g x y) (hb : Below w.heap.size w w') : Two w' g x y := h.keep hb h.lt
theorem Two.alloc {w : World} {g : Nat} {x y : Int} (h : Two w g x y) (o : Obj) : Two (w.alloc o) g x y := h.below ((Below.refl _ w).alloc (Nat.le_refl _) _)
/-- What a store of two ints leaves. -/
theorem Two.set0 {w : World} {g : Nat} {x y : Int} (h : Two w g x y) (v : Value) : (w.setCell ⟨g, 0, none⟩ v).cell? ⟨g, 0, none⟩ = some v :=
  World.cell?_setCell_same' _ _ _ (by rw [h.c0]; rfl)
theorem Two.set1 {w : World} {g : Nat} {x y : Int} (h : Two w g x y) (u v : Value) : ((w.setCell ⟨g, 0, none⟩ u).setCell ⟨g, 1, none⟩ v).cell? ⟨g, 1, none⟩ = some v :=
  World.cell?_setCell_same' _ _ _ (by rw [World.cell?_setCell_other _ _ _ _ (by intro e; injection e with _ e2; exact absurd e2 (by decide)), h.c1]; rfl)

/-- Two arguments that were boxed at g and g + 1, and a result's block at g + 2. -/
structure Tri (g : Nat) (a1 a2 b1 b2 : Int) (w : World) : Prop where
  a : Two w g a1 a2
  b : Two w (g + 1) b1 b2
  r : Two w (g + 2) 0 0
theorem Tri.new (w : World) (a1 a2 b1 b2 : Int) (t t' t'' : TypeId) : Tri w.heap.size a1 a2 b1 b2 (((w.alloc (.cells #[.int .i64 a1, .int .i64 a2] t)).alloc (.cells #[.int .i64 b1, .int .i64 b2] t')).alloc (.cells #[.int .i64 0, .int .i64 0] t'')) :=
  ⟨((Two.new w a1 a2 t).alloc _).alloc _, ((Two.new (w.alloc _) b1 b2 t').alloc _).at (by simp), (Two.new ((w.alloc _).alloc _) 0 0 t'').at (by simp)⟩
theorem Tri.below {g : Nat} {a1 a2 b1 b2 : Int} {w w' : World} (h : Tri g a1 a2 b1 b2 w) (hb : Below w.heap.size w w') : Tri g a1 a2 b1 b2 w' := ⟨h.a.below hb, h.b.below hb, h.r.below hb⟩
theorem Tri.alloc {g : Nat} {a1 a2 b1 b2 : Int} {w : World} (h : Tri g a1 a2 b1 b2 w) (o : Obj) : Tri g a1 a2 b1 b2 (w.alloc o) := ⟨h.a.alloc o, h.b.alloc o, h.r.alloc o⟩
/-- Two arguments that were boxed at g and g + 1. -/
structure Duo (g : Nat) (a1 a2 b1 b2 : Int) (w : World) : Prop where
  a : Two w g a1 a2
  b : Two w (g + 1) b1 b2
theorem Duo.new (w : World) (a1 a2 b1 b2 : Int) (t t' : TypeId) : Duo w.heap.size a1 a2 b1 b2 ((w.alloc (.cells #[.int .i64 a1, .int .i64 a2] t)).alloc (.cells #[.int .i64 b1, .int .i64 b2] t')) :=
  ⟨(Two.new w a1 a2 t).alloc _, (Two.new (w.alloc _) b1 b2 t').at (by simp)⟩
theorem Duo.below {g : Nat} {a1 a2 b1 b2 : Int} {w w' : World} (h : Duo g a1 a2 b1 b2 w) (hb : Below w.heap.size w w') : Duo g a1 a2 b1 b2 w' := ⟨h.a.below hb, h.b.below hb⟩

theorem two_allocs (w : World) (o o' : Obj) : Below w.heap.size w ((w.alloc o).alloc o') := (((Below.refl _ w).alloc (Nat.le_refl _) _).alloc (by simp) _)
theorem three_allocs (w : World) (o o' o'' : Obj) : Below w.heap.size w (((w.alloc o).alloc o').alloc o'') := ((((Below.refl _ w).alloc (Nat.le_refl _) _).alloc (by simp) _).alloc (by simp; omega) _)
theorem below_drew {B : Nat} {w w' : World} (h : Below B w.drew w') : Below B w w' := ⟨h.os, h.tape, h.output, h.size, h.block⟩
/-- One call more. -/
theorem below_on {w w1 w2 : World} (h : Below w.heap.size w w1) (k : Below w1.heap.size w1 w2) : Below w.heap.size w w2 := h.trans (k.mono h.size)
theorem below_set2 {w w1 : World} {g : Nat} (h : Below w.heap.size w w1) (hg : w.heap.size ≤ g) (u v : Value) : Below w.heap.size w ((w1.setCell ⟨g, 0, none⟩ u).setCell ⟨g, 1, none⟩ v) := (h.setCell hg u).setCell hg v
theorem below_more {w w1 : World} (h : Below w.heap.size w w1) (o : Obj) : Below w.heap.size w (w1.alloc o) := below_on h ((Below.refl _ w1).alloc (Nat.le_refl _) o)

end Go.Proofs.YtoancpdiilofmaaDoor
