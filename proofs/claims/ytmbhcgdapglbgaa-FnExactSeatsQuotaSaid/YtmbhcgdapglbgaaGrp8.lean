/-
  A region that draws its order, whose operations only read what was there and whose callees write nothing that was there: one walk, in the order of the text. No function of the seat.
  Blocks of two ints that a function lays itself, behind calls. Of no function.
  Slices of fractions in memory: what they hold, and two stores into one that is the call's own. Of no function.
  A region that draws its order, whose last operations are one forced order and whose others only read: the others by the cheap steps of a quiet walk, in one world. No function of the seat.
  A region that draws its order, whose last operations come in one forced order and whose others only read or call what writes nothing that was there: the others once, over a class of worlds, then the tail in each world of the class. No function of the seat.
-/
import Derived.Test.YtmbhcgdapglbgaaGrp1
import Derived.BigQuiet
import Derived.Handy
import Derived.Test.YtmbhcgdapglbgaaGrp6
import Derived.Test.YtmbhcgdapglbgaaGrp3
import Derived.StillTailTactics
namespace Go.Proofs.Ytmbhcgdapglbgaa
open Go.RowKit

/-- The worlds in which nothing that was in W has turned. -/
def Beh (W : World) : Type := { w : World // Below W.heap.size W w }
def Beh.w {W : World} (u : Beh W) : World := u.1
instance beh_some (W : World) : Nonempty (Beh W) := ⟨⟨W, Below.refl _ _⟩⟩
theorem Beh.below {W : World} (u : Beh W) : Below W.heap.size W u.w := u.2
theorem Beh.cell {W : World} {b o : Nat} {v : Value} (h : W.cell? ⟨b, o, none⟩ = some v) (hb : b < W.heap.size) (u : Beh W) : u.w.cell? ⟨b, o, none⟩ = some v := (u.below.cell (p := ⟨b, o, none⟩) hb).trans h
theorem wp_region_below {P : Program} {id : Nat} {Q : Exit → Act → World → Prop} {a : Act} {w : World} {l : List Oper} (hm : P.follows .mixedOrders = true) (hB : Region.lexB .any l.toArray = true)
    (h : wpQuiet P l.toArray (fun w' => ∃ u : Beh w, w' = u.w) (fun a' => ∀ w', (∃ u : Beh w, w' = u.w) → Q .normal a' w') l a) : (Code.region id l.toArray true).wp P Q a w :=
  wp_region_quiet (C := fun w' => ∃ u : Beh w, w' = u.w) hm hB ⟨⟨w.drew, (Below.refl _ _).drew⟩, rfl⟩ (by simpa using h)
theorem Calls.beh {P : Program} {f : FuncId} {args : Array Value} {W : World} {u : Beh W} {v : Value}
    (h : Calls P f args u.w fun e w' => e = .returned v ∧ Below u.w.heap.size u.w w') : Calls P f args u.w fun e w'' => e = .returned v ∧ ∃ u' : Beh W, w'' = u'.w :=
  h.mono fun _ w' ⟨he, hb⟩ => ⟨he, ⟨w', u.below.trans (hb.mono u.below.size)⟩, rfl⟩
theorem Calls.behDr {P : Program} {f : FuncId} {args : Array Value} {W : World} {u : Beh W} {v : Value}
    (h : Calls P f args u.w fun e w' => e = .returned v ∧ Dr u.w w') : Calls P f args u.w fun e w'' => e = .returned v ∧ ∃ u' : Beh W, w'' = u'.w :=
  Calls.beh (h.mono fun _ _ ⟨he, hd⟩ => ⟨he, hd.below _⟩)
theorem Calls.behSame {P : Program} {f : FuncId} {args : Array Value} {W : World} {u : Beh W} {v : Value}
    (h : Calls P f args u.w fun e w' => e = .returned v ∧ u.w = w') : Calls P f args u.w fun e w'' => e = .returned v ∧ ∃ u' : Beh W, w'' = u'.w :=
  Calls.beh (h.mono fun _ _ ⟨he, hd⟩ => ⟨he, by subst hd; exact Below.refl _ _⟩)

end Go.Proofs.Ytmbhcgdapglbgaa

namespace Go.Proofs.Ytmbhcgdapglbgaa
open Go.RowKit

theorem lt_alloc (w : World) (o : Obj) : w.heap.size < (w.alloc o).heap.size := by simp
theorem le_alloc (w : World) (o : Obj) : w.heap.size ≤ (w.alloc o).heap.size := by simp
/-- Block g holds two ints. -/
structure Two (w : World) (g : Nat) (x y : Int) : Prop where
  lt : g < w.heap.size
  c0 : w.cell? ⟨g, 0, none⟩ = some (.int .i64 x)
  c1 : w.cell? ⟨g, 1, none⟩ = some (.int .i64 y)
  f0 : w.frozen? ⟨g, 0, none⟩ = false
  f1 : w.frozen? ⟨g, 1, none⟩ = false
theorem Two.new (w : World) (x y : Int) (t : TypeId) : Two (w.alloc (.cells #[.int .i64 x, .int .i64 y] t)) w.heap.size x y :=
  ⟨by simp, (World.cell?_alloc_mark w _ t (0, 0) 0).trans rfl, (World.cell?_alloc_mark w _ t (0, 0) 1).trans rfl, (World.frozen?_alloc_mark w _ t 0 0 0).trans rfl, (World.frozen?_alloc_mark w _ t 0 0 1).trans rfl⟩
theorem Two.at {w : World} {g g' : Nat} {x y : Int} (h : Two w g x y) (e : g = g') : Two w g' x y := by subst e; exact h
theorem Two.keep {w w' : World} {B g : Nat} {x y : Int} (h : Two w g x y) (hb : Below B w w') (hg : g < B) : Two w' g x y :=
  ⟨Nat.lt_of_lt_of_le h.lt hb.size, (hb.cell (p := ⟨g, 0, none⟩) hg).trans h.c0, (hb.cell (p := ⟨g, 1, none⟩) hg).trans h.c1, (hb.frozen (p := ⟨g, 0, none⟩) hg).trans h.f0, (hb.frozen (p := ⟨g, 1, none⟩) hg).trans h.f1⟩
theorem Two.below {w w' : World} {g : Nat} {x y : Int} (h : Two w g x y) (hb : Below w.heap.size w w') : Two w' g x y := h.keep hb h.lt
theorem Two.alloc {w : World} {g : Nat} {x y : Int} (h : Two w g x y) (o : Obj) : Two (w.alloc o) g x y := h.below ((Below.refl _ w).alloc (Nat.le_refl _) _)
/-- What a store of two ints leaves. -/
theorem Two.set0 {w : World} {g : Nat} {x y : Int} (h : Two w g x y) (v : Value) : (w.setCell ⟨g, 0, none⟩ v).cell? ⟨g, 0, none⟩ = some v :=
  World.cell?_setCell_same' _ _ _ (by rw [h.c0]; rfl)
theorem Two.set1 {w : World} {g : Nat} {x y : Int} (h : Two w g x y) (u v : Value) : ((w.setCell ⟨g, 0, none⟩ u).setCell ⟨g, 1, none⟩ v).cell? ⟨g, 1, none⟩ = some v :=
  World.cell?_setCell_same' _ _ _ (by rw [World.cell?_setCell_other _ _ _ _ (by intro e; injection e with _ e2; exact absurd e2 (by decide)), h.c1]; rfl)

/-- Two arguments that were boxed at g and g + 1, and a result's block at g + 2. -/
structure Tri (g : Nat) (a1 a2 b1 b2 : Int) (w : World) : Prop where
  a : Two w g a1 a2
  b : Two w (g + 1) b1 b2
  r : Two w (g + 2) 0 0
theorem Tri.new (w : World) (a1 a2 b1 b2 : Int) (t t' t'' : TypeId) : Tri w.heap.size a1 a2 b1 b2 (((w.alloc (.cells #[.int .i64 a1, .int .i64 a2] t)).alloc (.cells #[.int .i64 b1, .int .i64 b2] t')).alloc (.cells #[.int .i64 0, .int .i64 0] t'')) :=
  ⟨((Two.new w a1 a2 t).alloc _).alloc _, ((Two.new (w.alloc _) b1 b2 t').alloc _).at (by simp), (Two.new ((w.alloc _).alloc _) 0 0 t'').at (by simp)⟩
theorem Tri.below {g : Nat} {a1 a2 b1 b2 : Int} {w w' : World} (h : Tri g a1 a2 b1 b2 w) (hb : Below w.heap.size w w') : Tri g a1 a2 b1 b2 w' := ⟨h.a.below hb, h.b.below hb, h.r.below hb⟩
theorem Tri.alloc {g : Nat} {a1 a2 b1 b2 : Int} {w : World} (h : Tri g a1 a2 b1 b2 w) (o : Obj) : Tri g a1 a2 b1 b2 (w.alloc o) := ⟨h.a.alloc o, h.b.alloc o, h.r.alloc o⟩
/-- Two arguments that were boxed at g and g + 1. -/
structure Duo (g : Nat) (a1 a2 b1 b2 : Int) (w : World) : Prop where
  a : Two w g a1 a2
  b : Two w (g + 1) b1 b2
theorem Duo.new (w : World) (a1 a2 b1 b2 : Int) (t t' : TypeId) : Duo w.heap.size a1 a2 b1 b2 ((w.alloc (.cells #[.int .i64 a1, .int .i64 a2] t)).alloc (.cells #[.int .i64 b1, .int .i64 b2] t')) :=
  ⟨(Two.new w a1 a2 t).alloc _, (Two.new (w.alloc _) b1 b2 t').at (by simp)⟩
theorem Duo.below {g : Nat} {a1 a2 b1 b2 : Int} {w w' : World} (h : Duo g a1 a2 b1 b2 w) (hb : Below w.heap.size w w') : Duo g a1 a2 b1 b2 w' := ⟨h.a.below hb, h.b.below hb⟩

theorem two_allocs (w : World) (o o' : Obj) : Below w.heap.size w ((w.alloc o).alloc o') := (((Below.refl _ w).alloc (Nat.le_refl _) _).alloc (by simp) _)
theorem three_allocs (w : World) (o o' o'' : Obj) : Below w.heap.size w (((w.alloc o).alloc o').alloc o'') := ((((Below.refl _ w).alloc (Nat.le_refl _) _).alloc (by simp) _).alloc (by simp; omega) _)
theorem below_drew {B : Nat} {w w' : World} (h : Below B w.drew w') : Below B w w' := ⟨h.os, h.tape, h.output, h.size, h.block⟩
/-- One call more. -/
theorem below_on {w w1 w2 : World} (h : Below w.heap.size w w1) (k : Below w1.heap.size w1 w2) : Below w.heap.size w w2 := h.trans (k.mono h.size)
theorem below_set2 {w w1 : World} {g : Nat} (h : Below w.heap.size w w1) (hg : w.heap.size ≤ g) (u v : Value) : Below w.heap.size w ((w1.setCell ⟨g, 0, none⟩ u).setCell ⟨g, 1, none⟩ v) := (h.setCell hg u).setCell hg v
theorem below_more {w w1 : World} (h : Below w.heap.size w w1) (o : Obj) : Below w.heap.size w (w1.alloc o) := below_on h ((Below.refl _ w1).alloc (Nat.le_refl _) o)

end Go.Proofs.Ytmbhcgdapglbgaa

namespace Go.Proofs.Ytmbhcgdapglbgaa
open Go.RowKit

/-- The cells of fractions. -/
def cellsF : List Fr → List Value
  | [] => []
  | p :: ps => .int .i64 p.1 :: .int .i64 p.2 :: cellsF ps
theorem cellsF_length : ∀ ps : List Fr, (cellsF ps).length = ps.length * 2
  | [] => rfl
  | p :: ps => by rw [cellsF, List.length_cons, List.length_cons, cellsF_length ps, List.length_cons]; omega
theorem cellsF_app (a b : List Fr) : cellsF (a ++ b) = cellsF a ++ cellsF b := by
  induction a with
  | nil => rfl
  | cons p a ih => rw [List.cons_append, cellsF, cellsF, ih]; rfl
theorem cellsF_one (p : Fr) : cellsF [p] = [.int .i64 p.1, .int .i64 p.2] := rfl
/-- The fraction at a place. -/
def fAt (cs : List Fr) (j : Nat) : Fr := cs[j]?.getD (0, 1)
theorem fAt_cons (p : Fr) (ps : List Fr) (j : Nat) : fAt (p :: ps) (j + 1) = fAt ps j := by simp [fAt]
theorem cellsF_num : ∀ (ps : List Fr) (j : Nat), j < ps.length → (cellsF ps)[j * 2]? = some (.int .i64 (fAt ps j).1)
  | [], j, h => by simp at h
  | p :: ps, 0, _ => rfl
  | p :: ps, j + 1, h => by
    rw [fAt_cons, cellsF, show (j + 1) * 2 = j * 2 + 1 + 1 by omega, List.getElem?_cons_succ, List.getElem?_cons_succ]
    exact cellsF_num ps j (by simpa using h)
theorem cellsF_den : ∀ (ps : List Fr) (j : Nat), j < ps.length → (cellsF ps)[j * 2 + 1]? = some (.int .i64 (fAt ps j).2)
  | [], j, h => by simp at h
  | p :: ps, 0, _ => rfl
  | p :: ps, j + 1, h => by
    rw [fAt_cons, cellsF, show (j + 1) * 2 + 1 = j * 2 + 1 + 1 + 1 by omega, List.getElem?_cons_succ, List.getElem?_cons_succ]
    exact cellsF_den ps j (by simpa using h)
theorem cellsF_set : ∀ (ps : List Fr) (k : Nat) (x y : Int), ((cellsF ps).set (k * 2) (.int .i64 x)).set (k * 2 + 1) (.int .i64 y) = cellsF (ps.set k (x, y))
  | [], k, x, y => rfl
  | p :: ps, 0, x, y => rfl
  | p :: ps, k + 1, x, y => by
    rw [cellsF, show (k + 1) * 2 = k * 2 + 1 + 1 by omega, show k * 2 + 1 + 1 + 1 = (k * 2 + 1) + 1 + 1 by omega, List.set_cons_succ, List.set_cons_succ, List.set_cons_succ, List.set_cons_succ, cellsF_set ps k x y, List.set_cons_succ, cellsF]
theorem cellsF_repl (n : Nat) : (List.replicate n [Value.int .i64 0, .int .i64 1]).flatten = cellsF (List.replicate n (0, 1)) := by
  induction n with
  | zero => rfl
  | succ n ih => rw [List.replicate_succ, List.flatten_cons, ih, List.replicate_succ, cellsF]; rfl

/-- The slice value reads as these fractions. -/
def IsFr (w : World) (a : Option Addr) (len cap : Nat) (cs : List Fr) : Prop :=
  cs.length = len ∧ len ≤ cap ∧ len ≤ 1048600 ∧ (0 < len → ∃ b off, a = some ⟨b, off, none⟩ ∧ b < w.heap.size ∧
    ∀ j, j < len → w.cell? ⟨b, off + j * 2, none⟩ = some (.int .i64 (fAt cs j).1) ∧ w.cell? ⟨b, off + j * 2 + 1, none⟩ = some (.int .i64 (fAt cs j).2))
theorem IsFr.below {w w' : World} {a : Option Addr} {len cap : Nat} {cs : List Fr} (h : IsFr w a len cap cs) (hb : Below w.heap.size w w') : IsFr w' a len cap cs := by
  obtain ⟨h1, h2, h3, h4⟩ := h
  refine ⟨h1, h2, h3, fun hl => ?_⟩
  obtain ⟨b, off, e, hlt, hc⟩ := h4 hl
  exact ⟨b, off, e, Nat.lt_of_lt_of_le hlt hb.size, fun j hj => ⟨(hb.cell (p := ⟨b, off + j * 2, none⟩) hlt).trans (hc j hj).1, (hb.cell (p := ⟨b, off + j * 2 + 1, none⟩) hlt).trans (hc j hj).2⟩⟩
theorem IsFr.at {w : World} {a : Option Addr} {len cap : Nat} {cs : List Fr} (h : IsFr w a len cap cs) {i : Nat} (hi : i < len) : ∃ b off, a = some ⟨b, off, none⟩ ∧ b < w.heap.size ∧ w.cell? ⟨b, off + i * 2, none⟩ = some (.int .i64 (fAt cs i).1) ∧ w.cell? ⟨b, off + i * 2 + 1, none⟩ = some (.int .i64 (fAt cs i).2) := by
  obtain ⟨b, off, e, hlt, hc⟩ := h.2.2.2 (by omega)
  exact ⟨b, off, e, hlt, hc i hi⟩
theorem IsFr.of_owned {w : World} {base len cap : Nat} {e : TypeId} {a : Option Addr} {cs : List Fr} (h : w.ownsRow base e 2 (.slice a len cap) len (cellsF cs)) (hl : len ≤ 1048600) : IsFr w a len cap cs := by
  have hlen : cs.length = len := by have h1 := h.1; rw [cellsF_length] at h1; omega
  rcases h.2 with ⟨e1, e0⟩ | ⟨g, c, cur, e1, hb, hg, hcap, hmax, hcur, htake⟩
  · subst e0
    have hz : cs = [] := List.length_eq_zero_iff.1 hlen
    subst hz
    exact ⟨rfl, Nat.zero_le _, hl, fun hp => by omega⟩
  · injection e1 with e1 e2 e3
    subst e1
    subst e3
    refine ⟨hlen, hcap, hl, fun hp => ⟨g, 0, rfl, (h.lt g rfl).2, fun j hj => ⟨?_, ?_⟩⟩⟩
    · rw [Nat.zero_add, h.cellAt (j * 2) (by omega)]
      exact cellsF_num cs j (by omega)
    · rw [Nat.zero_add, h.cellAt (j * 2 + 1) (by omega)]
      exact cellsF_den cs j (by omega)
/-- Two stores into a row of fractions that is owned. -/
theorem owns_setF {w : World} {base n cap g : Nat} {e : TypeId} {cs : List Fr} (h : w.ownsRow base e 2 (.slice (some ⟨g, 0, none⟩) n cap) n (cellsF cs)) (k : Nat) (x y : Int) :
    ((w.setCell ⟨g, k * 2, none⟩ (.int .i64 x)).setCell ⟨g, k * 2 + 1, none⟩ (.int .i64 y)).ownsRow base e 2 (.slice (some ⟨g, 0, none⟩) n cap) n (cellsF (cs.set k (x, y))) ∧ w.grownBy ((w.setCell ⟨g, k * 2, none⟩ (.int .i64 x)).setCell ⟨g, k * 2 + 1, none⟩ (.int .i64 y)) (some g) := by
  have h1 := h.stored (k * 2) (.int .i64 x)
  have h2 := h1.1.stored (k * 2 + 1) (.int .i64 y)
  rw [cellsF_set] at h2
  refine ⟨h2.1, ⟨rfl, rfl, rfl, by simp [World.setCell], fun j hj hne => ?_⟩⟩
  exact (h2.2.block j (by simp [World.setCell]; exact hj) hne).trans (h1.2.block j hj hne)

/-- What two stores into such a row meet. -/
theorem meets_setF {w : World} {base n cap g : Nat} {e : TypeId} {cs : List Fr} (h : w.ownsRow base e 2 (.slice (some ⟨g, 0, none⟩) n cap) n (cellsF cs)) {k : Nat} (hk : k < n) (u : Value) :
    (w.cell? ⟨g, k * 2, none⟩ = some (.int .i64 (fAt cs k).1) ∧ w.frozen? ⟨g, k * 2, none⟩ = false) ∧ (w.setCell ⟨g, k * 2, none⟩ u).cell? ⟨g, k * 2 + 1, none⟩ = some (.int .i64 (fAt cs k).2) ∧ (w.setCell ⟨g, k * 2, none⟩ u).frozen? ⟨g, k * 2 + 1, none⟩ = false := by
  have hlen : cs.length = n := by have h1 := h.1; rw [cellsF_length] at h1; omega
  refine ⟨⟨?_, h.frozenAt _⟩, ?_, ?_⟩
  · rw [h.cellAt (k * 2) (by omega)]; exact cellsF_num cs k (by omega)
  · rw [World.cell?_setCell_other _ _ _ _ (by intro e; injection e with _ e2; omega), h.cellAt (k * 2 + 1) (by omega)]; exact cellsF_den cs k (by omega)
  · rw [World.frozen?_setCell]; exact h.frozenAt _


end Go.Proofs.Ytmbhcgdapglbgaa

namespace Go.Proofs.Ytmbhcgdapglbgaa
open Go.RowKit

theorem still_of_quiet {P : Program} {ops : Array Oper} {w0 : World} {Q : Act → Prop} : ∀ (l : List Oper) (a : Act), wpQuiet P ops (fun w' => w' = w0) Q l a → wpStill P ops w0 Q l a
  | [], _, h => h
  | o :: rest, a, h => by
    have ih := still_of_quiet (P := P) (ops := ops) (w0 := w0) (Q := Q) rest
    simp only [wpQuiet] at h
    simp only [wpStill]
    by_cases hw : Region.wanted o (yielded ops a.tmps) = true
    · rw [if_pos hw] at h ⊢
      obtain ⟨v, h1, h2⟩ := h
      have h3 := h1 w0 rfl
      unfold Oper.quietAt at h3
      unfold Oper.still
      generalize (execOp a.eval o).run P w0 = r at h3
      cases r with
      | ok n w' =>
        cases n <;> simp only [Oper.quietUpon] at h3 <;> simp only [Oper.stillUpon]
        case value u =>
          obtain ⟨e1, e2⟩ := h3
          subst e2
          exact ⟨e1, ih _ h2⟩
        case skip =>
          obtain ⟨e1, e2⟩ := h3
          subst e2
          exact ⟨e1, ih _ h2⟩
        case enter f args =>
          obtain ⟨e1, e2⟩ := h3
          exact ⟨e1, v, e2, ih _ h2⟩
      | halt x w' => simp only [Oper.quietUpon] at h3
    · rw [if_neg hw] at h ⊢
      exact ih _ h

/-- **The others by a quiet walk, then the tail.** -/
theorem region_quiet_tail {P : Program} {id : Nat} {Q : Exit → Act → World → Prop} {a : Act} {w : World} {l : List Oper} (n : Nat) (hm : P.follows .mixedOrders = true) (hB : Region.lexTailB .any l.toArray n = true)
    (h : wpQuiet P l.toArray (fun w' => w' = w.drew) (fun a' => wpList P l.toArray Q (l.drop n) a' w.drew) (l.take n) a) : (Code.region id l.toArray true).wp P Q a w :=
  wp_region_still_tail n hm hB (still_of_quiet _ _ h)

end Go.Proofs.Ytmbhcgdapglbgaa

namespace Go.Proofs.Ytmbhcgdapglbgaa
open Go.RowKit

section
variable {P : Program} {ops : Array Oper} {C : World → Prop}

/-- The head of such a region: each operation that may come up lies in the head and is quiet. -/
def headQ (P : Program) (ops : Array Oper) (C : World → Prop) (n : Nat) (L : Array Bool → Act → Prop) : Nat → Array Bool → Act → Prop
  | 0, done, a => L done a
  | f + 1, done, a => Region.ready .any ops done ≠ [] ∧ ∀ i ∈ Region.ready .any ops done, i < n ∧ qOp P ops C i (headQ P ops C n L f (done.setIfInBounds i true)) a

theorem any_of_headQ {n g : Nat} {L : Array Bool → Act → Prop} {Q' : Exit → Act → World → Prop} (hL : ∀ done a w, C w → L done a → wpAny P .any ops Q' g done a w) :
    ∀ (f : Nat) (done : Array Bool) (a : Act) (w : World), C w → headQ P ops C n L f done a → wpAny P .any ops Q' (f + g) done a w := by
  intro f
  induction f with
  | zero => intro done a w hw h; rw [Nat.zero_add]; exact hL _ _ _ hw h
  | succ f ih =>
    intro done a w hw h
    have e : f + 1 + g = (f + g) + 1 := by omega
    rw [e]
    refine ⟨fun h0 => absurd h0 h.1, fun i hi => ?_⟩
    exact wpOp_of_qOp hw (fun a' w' hw' h' => ih _ a' w' hw' h') (h.2 i hi).2

theorem headQ_take {n i : Nat} {oi : Oper} {v : Value} {L : Array Bool → Act → Prop} (hi : ops[i]? = some oi) (hno : ∀ (j : Nat) (o : Oper) cs b, ops[j]? = some o → o.op ≠ .select cs b)
    (hs : Region.sinkB .any ops n = true) (hc : Region.chainB .any ops n = true) (hn : n < ops.size) (hin : i < n) (hend : ∀ done a, L done a → ∀ j ∈ Region.ready .any ops done, n ≤ j) :
    ∀ (f : Nat) (done : Array Bool) (a : Act), HeadInv .any ops n done →
      (∀ j oj, ops[j]? = some oj → j ≠ i → done.getD j true = false → (∀ e ∈ oj.after, Region.binds .any e = true → e.on ≠ i) → oi.apart ops oj = true) →
      i ∈ Region.ready .any ops done → YieldsIn P ops C oi v a →
      headQ P ops C n L f (done.setIfInBounds i true) (a.put oi.dst v) → headQ P ops C n L (f + 1) done a := by
  intro f
  induction f with
  | zero =>
    intro done a inv _ hr hy H
    have hopen := (mem_ready.1 hr).1
    refine ⟨List.ne_nil_of_mem hr, fun j hj => ?_⟩
    have hjn : j < n := Nat.lt_of_not_le fun h => tail_waits hs hc hn inv _ i rfl hin hopen j h hj
    refine ⟨hjn, ?_⟩
    by_cases hji : j = i
    · rw [hji]; exact hy.qOp hi H
    · exact absurd (hend _ _ H j (ready_mono hj hji)) (by omega)
  | succ f ih =>
    intro done a inv hfree hr hy H
    have hopen := (mem_ready.1 hr).1
    refine ⟨List.ne_nil_of_mem hr, fun j hj => ?_⟩
    have hjn : j < n := Nat.lt_of_not_le fun h => tail_waits hs hc hn inv _ i rfl hin hopen j h hj
    refine ⟨hjn, ?_⟩
    by_cases hji : j = i
    · rw [hji]; exact hy.qOp hi H
    · have hnext := (H.2 j (ready_mono hj hji)).2
      obtain ⟨hjopen, oj, hoj, hall⟩ := mem_ready.1 hj
      have hnot : ∀ e ∈ oj.after, Region.binds .any e = true → e.on ≠ i := fun e he hb heq => by
        have := hall e he hb
        rw [heq, getD_both hopen] at this
        cases this
      have hput := qOp_put hoj (hfree j oj hoj hji hjopen hnot) (fun cs b => hno i oi cs b hi) (fun cs b => hno j oj cs b hoj) hy hnext
      refine qOp_mono (fun a' h3 => ih (done.setIfInBounds j true) a' (inv.set hj hjn) ?_ (ready_mono hr (Ne.symm hji)) h3.1 ?_) hput
      · intro k ok hk hki hkopen hkno
        refine hfree k ok hk hki ?_ hkno
        by_cases hjk : j = k
        · rw [← hjk]; exact hjopen
        · rw [getD_set_ne true hjk] at hkopen; exact hkopen
      · rw [Array.setIfInBounds_comm _ _ hji]; exact h3.2

theorem headQ_lex {n g : Nat} {Lq : Act → Prop} (hsel : Region.noSelect ops = true) (hs : Region.sinkB .any ops n = true) (hc : Region.chainB .any ops n = true) (hn : n < ops.size) :
    ∀ (l : List Oper) (k : Nat) (done : Array Bool) (a : Act), (∀ j, j < l.length → l[j]? = ops[k + j]?) → k + l.length = n → HeadInv .any ops n done →
    Region.lexHead .any ops g l.length k done = true → wpQuiet P ops C Lq l a →
    headQ P ops C n (fun done' a' => Region.seqB .any ops g n done' = true ∧ Lq a') l.length done a := by
  intro l
  induction l with
  | nil =>
    intro k done a _ hk _ hB h
    have e : k = n := by simpa using hk
    rw [e] at hB
    exact ⟨hB, h⟩
  | cons o l ih =>
    intro k done a hl hk inv hB h
    have h0 : ops[k]? = some o := by simpa using (hl 0 (by simp)).symm
    have hlen : k + (l.length + 1) = n := by simpa using hk
    simp only [List.length_cons, Region.lexHead, Bool.and_eq_true] at hB
    have hr : k ∈ Region.ready .any ops done := by simpa using hB.1.1
    have hq : qOp P ops C k (wpQuiet P ops C Lq l) a := by unfold qOp; simp only [h0]; exact h
    obtain ⟨v, hy, hK⟩ := yieldsIn_of_qOp h0 hq
    refine headQ_take h0 (Region.noSelect_spec hsel) hs hc hn (by omega) (fun _ _ hL => seqB_ready hL.1) l.length done a inv (Region.free_spec h0 hB.1.2) hr hy ?_
    refine ih (k + 1) _ _ (fun j hj => ?_) (by omega) (inv.set hr (by omega)) hB.2 hK
    have := hl (j + 1) (by simp; omega)
    rw [List.getElem?_cons_succ] at this
    rw [this]
    congr 1
    omega

/-- **The head once, over a class of worlds; the tail in each of them.** -/
theorem wp_region_class_tail {id : Nat} {Q : Exit → Act → World → Prop} {a : Act} {w : World} {l : List Oper} (n : Nat) (hm : P.follows .mixedOrders = true) (hB : Region.lexTailB .any l.toArray n = true) (hC : C w.drew)
    (h : wpQuiet P l.toArray C (fun a' => ∀ w', C w' → wpList P l.toArray Q (l.drop n) a' w') (l.take n) a) : (Code.region id l.toArray true).wp P Q a w := by
  simp only [Region.lexTailB, Bool.and_eq_true, decide_eq_true_eq] at hB
  obtain ⟨⟨⟨⟨hsel, hn⟩, hs⟩, hc⟩, hlex⟩ := hB
  have hnl : n < l.length := by simpa using hn
  have htl : (l.take n).length = n := by rw [List.length_take]; omega
  have hdl : (l.drop n).length = l.toArray.size - n := by simp
  have inv0 : HeadInv .any l.toArray n (Array.replicate l.toArray.size false) :=
    ⟨by simp, fun j oj _ hl => (by rw [getD_replicate_false] at hl; cases hl), fun t _ ht => getD_in (by simpa using ht) (getD_replicate_false _ _)⟩
  have H := headQ_lex (g := l.toArray.size - n) hsel hs hc hn (l.take n) 0 _ a (fun j hj => by
    rw [htl] at hj
    simp [hj]) (by rw [htl, Nat.zero_add]) inv0 (by rw [htl]; exact hlex) h
  refine wp_region_any hm ?_
  have := any_of_headQ (Q' := Q) (g := l.toArray.size - n) (fun done a' w' hw' hL => by
    have := wpAny_of_seq (Q' := Q) (l.drop n) n done a' w' (fun j => by simp) (by rw [hdl]; exact hL.1) (hL.2 w' hw')
    rw [hdl] at this
    exact this) _ _ _ w.drew hC H
  rw [htl, show n + (l.toArray.size - n) = l.toArray.size by simp; omega] at this
  exact this
theorem wp_region_below_tail {id : Nat} {Q : Exit → Act → World → Prop} {a : Act} {w : World} {l : List Oper} (n : Nat) (hm : P.follows .mixedOrders = true) (hB : Region.lexTailB .any l.toArray n = true)
    (h : wpQuiet P l.toArray (fun w' => ∃ u : Beh w, w' = u.w) (fun a' => ∀ w', (∃ u : Beh w, w' = u.w) → wpList P l.toArray Q (l.drop n) a' w') (l.take n) a) : (Code.region id l.toArray true).wp P Q a w :=
  wp_region_class_tail (C := fun w' => ∃ u : Beh w, w' = u.w) n hm hB ⟨⟨w.drew, (Below.refl _ _).drew⟩, rfl⟩ h
end

end Go.Proofs.Ytmbhcgdapglbgaa
