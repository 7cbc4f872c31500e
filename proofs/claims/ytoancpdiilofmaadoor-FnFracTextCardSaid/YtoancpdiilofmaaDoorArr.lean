/-
  Arrays that are laid in a drawing region between picks, and what is kept of blocks while the reader goes on. Of no function of the seat.
-/
import Derived.Test.YtoancpdiilofmaaDoorDrawO
import Derived.Test.YtoancpdiilofmaaDoorTwo
import Derived.Deep.RegionLaw
import Derived.Deep.Onto
namespace Go.Proofs.YtoancpdiilofmaaDoor
open Go.RowKit

theorem step_same {R : Nat} {w w' : World} (h : Step R w w') {b o : Nat} (hb : b < w.heap.size) (hR : b ≠ R) : w'.cell? ⟨b, o, none⟩ = w.cell? ⟨b, o, none⟩ :=
  World.cell?_of_block (h.block b hb (fun e => hR (by injection e)))
theorem new_cell (w : World) (xs : Array Value) (t : TypeId) (d : Nat) : (w.alloc (.cells xs t)).cell? ⟨w.heap.size, d, none⟩ = xs[d]? := (World.cell?_alloc_mark w xs t (0, 0) d)


/-- One array, then a pick. -/
theorem arr_a {R : Nat} {w w' : World} {xs : Array Value} {t : TypeId} (hs : Step R (w.alloc (.cells xs t)) w') (hR : w.heap.size ≠ R) (d : Nat) : w'.cell? ⟨w.heap.size, d, none⟩ = xs[d]? :=
  (step_same hs (lt_alloc _ _) hR).trans (new_cell w xs t d)
/-- Two arrays, then a pick: the first one, the second one. -/
theorem arr_b {R : Nat} {w w' : World} {xs : Array Value} {t : TypeId} {o : Obj} (hs : Step R ((w.alloc (.cells xs t)).alloc o) w') (hR : w.heap.size ≠ R) (d : Nat) : w'.cell? ⟨w.heap.size, d, none⟩ = xs[d]? :=
  arr_a (((Step.refl R _).alloc o).trans hs) hR d
theorem arr_c {R : Nat} {w w' : World} {xs : Array Value} {t : TypeId} {o : Obj} (hs : Step R ((w.alloc o).alloc (.cells xs t)) w') (hR : w.heap.size + 1 ≠ R) (d : Nat) : w'.cell? ⟨w.heap.size + 1, d, none⟩ = xs[d]? := by
  have h := arr_a hs (by rw [World.size_alloc]; exact hR) d
  rwa [World.size_alloc] at h
/-- Two arrays behind the last pick: the second one. -/
theorem arr_n (w : World) (xs : Array Value) (t : TypeId) (o : Obj) (d : Nat) : ((w.alloc o).alloc (.cells xs t)).cell? ⟨w.heap.size + 1, d, none⟩ = xs[d]? := by
  have := new_cell (w.alloc o) xs t d
  rwa [World.size_alloc] at this
theorem step_one {R : Nat} {w w' : World} {o : Obj} (hs : Step R (w.alloc o) w') : Step R w w' := ((Step.refl R w).alloc o).trans hs
theorem step_two {R : Nat} {w w' : World} {o o' : Obj} (hs : Step R ((w.alloc o).alloc o') w') : Step R w w' := (((Step.refl R w).alloc o).alloc o').trans hs
theorem one_lt {R : Nat} {w w' : World} {o : Obj} (h : Step R (w.alloc o) w') : w.heap.size < w'.heap.size := by have := h.size; simp at this; omega
theorem two_lt {R : Nat} {w w' : World} {o o' : Obj} (h : Step R ((w.alloc o).alloc o') w') : w.heap.size + 1 < w'.heap.size := by have := h.size; simp at this; omega
theorem step_le {R : Nat} {w w' : World} (h : Step R w w') : w.heap.size ≤ w'.heap.size := h.size
theorem not_new {R : Nat} {w w' : World} (h : Step R w w') (hR : R < w.heap.size) : w'.heap.size ≠ R := by have := h.size; omega
theorem not_new1 {R : Nat} {w w' : World} (h : Step R w w') (hR : R < w.heap.size) : w'.heap.size + 1 ≠ R := by have := h.size; omega
theorem Two.step {R : Nat} {w w' : World} {g : Nat} {x y : Int} (h : Two w g x y) (hs : Step R w w') (hg : g ≠ R) : Two w' g x y :=
  ⟨Nat.lt_of_lt_of_le h.lt hs.size, (step_same hs h.lt hg).trans h.c0, (step_same hs h.lt hg).trans h.c1,
   (World.frozen?_of_block (w := w) (hs.block g h.lt (fun e => hg (by injection e)))).trans h.f0, (World.frozen?_of_block (w := w) (hs.block g h.lt (fun e => hg (by injection e)))).trans h.f1⟩
/-- A reader is kept where nothing up to its own block turns. -/
theorem Rd.low {w w' : World} {R p : Nat} (h : Rd w R p) (hb : Below (R + 1) w w') : Rd w' R p := by
  obtain ⟨h1, h2, h3, h4, a, len, cap, bs, h5, h6, h7, h8, h9⟩ := h
  refine ⟨Nat.lt_of_lt_of_le h1 hb.size, h2, (hb.cell (p := ⟨R, 1, none⟩) (by simp)).trans h3, (hb.frozen (p := ⟨R, 1, none⟩) (by simp)).trans h4, a, len, cap, bs, (hb.cell (p := ⟨R, 0, none⟩) (by simp)).trans h5, h6, h7, h8, fun hl => ?_⟩
  obtain ⟨b, off, e, hbR, hc⟩ := h9 hl
  exact ⟨b, off, e, hbR, fun j hj => (hb.cell (p := ⟨b, off + j, none⟩) (by simp; omega)).trans (hc j hj)⟩
theorem Rd.alloc {w : World} {R p : Nat} (h : Rd w R p) (o : Obj) : Rd (w.alloc o) R p := h.below ((Below.refl _ w).alloc (Nat.le_refl _) _)
theorem Rd.alloc_drew {w : World} {R p : Nat} (h : Rd w R p) (o : Obj) : Rd (w.alloc o).drew R p := h.below ((Below.refl _ w).alloc (Nat.le_refl _) _).drew
theorem Rd.alloc2_drew {w : World} {R p : Nat} (h : Rd w R p) (o o' : Obj) : Rd ((w.alloc o).alloc o').drew R p := h.below (((Below.refl _ w).alloc (Nat.le_refl _) _).alloc (le_alloc w _) _).drew
theorem Rd.drew {w : World} {R p : Nat} (h : Rd w R p) : Rd w.drew R p := h.below (Below.refl _ w).drew
theorem Rd.set2 {w : World} {R p g : Nat} (h : Rd w R p) (hg : R < g) (u v : Value) : Rd ((w.setCell ⟨g, 0, none⟩ u).setCell ⟨g, 1, none⟩ v) R p := h.low (((Below.refl _ w).setCell hg u).setCell hg v)
theorem Step.set {R : Nat} {w w' : World} (h : Step R w w') {g : Nat} (hg : w.heap.size ≤ g) (o : Nat) (v : Value) : Step R w (w'.setCell ⟨g, o, none⟩ v) :=
  ⟨h.os, h.tape, h.output, by have := h.size; simpa [World.setCell] using this, fun k hk hr => (Below.heap_setCell _ _ _ _ (by show k ≠ g; omega)).trans (h.block k hk hr)⟩
theorem Two.other {w : World} {g g' o : Nat} {x y : Int} {v : Value} (h : Two w g x y) (hg : g ≠ g') : Two (w.setCell ⟨g', o, none⟩ v) g x y :=
  ⟨by simpa [World.setCell] using h.lt, (World.cell?_of_block (w := w) (Below.heap_setCell _ _ _ _ hg)).trans h.c0, (World.cell?_of_block (w := w) (Below.heap_setCell _ _ _ _ hg)).trans h.c1,
   (World.frozen?_of_block (w := w) (Below.heap_setCell _ _ _ _ hg)).trans h.f0, (World.frozen?_of_block (w := w) (Below.heap_setCell _ _ _ _ hg)).trans h.f1⟩
theorem Two.stored {w : World} {g : Nat} {x y : Int} (h : Two w g x y) (u v : Int) : Two ((w.setCell ⟨g, 0, none⟩ (.int .i64 u)).setCell ⟨g, 1, none⟩ (.int .i64 v)) g u v :=
  ⟨by simpa [World.setCell] using h.lt, by rw [World.cell?_setCell_other _ _ _ _ (by intro e; injection e with _ e2; exact absurd e2 (by decide))]; exact h.set0 _, h.set1 _ _, by simpa using h.f0, by simpa using h.f1⟩
theorem lt_int {d n : Nat} (h : (d : Int) < (n : Int)) : d < n := by omega

end Go.Proofs.YtoancpdiilofmaaDoor
