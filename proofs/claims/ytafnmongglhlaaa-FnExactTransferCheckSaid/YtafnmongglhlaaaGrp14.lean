/-
  Slices of fractions in memory: what they hold, and two stores into one that is the call's own. Of no function.
  Fractions and steps of a transfer in memory: slices of fractions, and a row of steps whose counts lie in rows of their own. Of no function.
  The statements' own small functions at bools (toBoolS, eqBoolS): what each returns, and that it writes only into memory of its own. No condition but what each theorem says.
  The program's transfer in memory: its own block, the piles behind pointers, who is still there, who has gone; what a change of some types' blocks leaves. Of no function.
-/
import Derived.Test.YtafnmongglhlaaaGrp2
import Derived.Test.YtafnmongglhlaaaGrpT
import Derived.Test.YtafnmongglhlaaaGrp11
import Derived.Test.YtafnmongglhlaaaGrp13
import Derived.Test.YtafnmongglhlaaaGrp6
import Derived.Test.YtafnmongglhlaaaGrp1
namespace Go.Proofs.Ytafnmongglhlaaa
open Go.RowKit

/-- The cells of fractions. -/
def cellsF : List Fr → List Value
  | [] => []
  | p :: ps => .int .i64 p.1 :: .int .i64 p.2 :: cellsF ps
theorem cellsF_length : ∀ ps : List Fr, (cellsF ps).length = ps.length * 2
  | [] => rfl
  | p :: ps => by rw [cellsF, List.length_cons, List.length_cons, cellsF_length ps, List.length_cons]; omega
theorem cellsF_app (a b : List Fr) : cellsF (a ++ b) = cellsF a ++ cellsF b := by
  induction a with
  | nil => rfl
  | cons p a ih => rw [List.cons_append, cellsF, cellsF, ih]; rfl
theorem cellsF_one (p : Fr) : cellsF [p] = [.int .i64 p.1, .int .i64 p.2] := rfl
/-- The fraction at a place. -/
def fAt (cs : List Fr) (j : Nat) : Fr := cs[j]?.getD (0, 1)
theorem fAt_cons (p : Fr) (ps : List Fr) (j : Nat) : fAt (p :: ps) (j + 1) = fAt ps j := by simp [fAt]
theorem cellsF_num : ∀ (ps : List Fr) (j : Nat), j < ps.length → (cellsF ps)[j * 2]? = some (.int .i64 (fAt ps j).1)
  | [], j, h => by simp at h
  | p :: ps, 0, _ => rfl
  | p :: ps, j + 1, h => by
    rw [fAt_cons, cellsF, show (j + 1) * 2 = j * 2 + 1 + 1 by omega, List.getElem?_cons_succ, List.getElem?_cons_succ]
    exact cellsF_num ps j (by simpa using h)
theorem cellsF_den : ∀ (ps : List Fr) (j : Nat), j < ps.length → (cellsF ps)[j * 2 + 1]? = some (.int .i64 (fAt ps j).2)
  | [], j, h => by simp at h
  | p :: ps, 0, _ => rfl
  | p :: ps, j + 1, h => by
    rw [fAt_cons, cellsF, show (j + 1) * 2 + 1 = j * 2 + 1 + 1 + 1 by omega, List.getElem?_cons_succ, List.getElem?_cons_succ]
    exact cellsF_den ps j (by simpa using h)
theorem cellsF_set : ∀ (ps : List Fr) (k : Nat) (x y : Int), ((cellsF ps).set (k * 2) (.int .i64 x)).set (k * 2 + 1) (.int .i64 y) = cellsF (ps.set k (x, y))
  | [], k, x, y => rfl
  | p :: ps, 0, x, y => rfl
  | p :: ps, k + 1, x, y => by
    rw [cellsF, show (k + 1) * 2 = k * 2 + 1 + 1 by omega, show k * 2 + 1 + 1 + 1 = (k * 2 + 1) + 1 + 1 by omega, List.set_cons_succ, List.set_cons_succ, List.set_cons_succ, List.set_cons_succ, cellsF_set ps k x y, List.set_cons_succ, cellsF]
theorem cellsF_repl (n : Nat) : (List.replicate n [Value.int .i64 0, .int .i64 1]).flatten = cellsF (List.replicate n (0, 1)) := by
  induction n with
  | zero => rfl
  | succ n ih => rw [List.replicate_succ, List.flatten_cons, ih, List.replicate_succ, cellsF]; rfl

/-- The slice value reads as these fractions. -/
def IsFr (w : World) (a : Option Addr) (len cap : Nat) (cs : List Fr) : Prop :=
  cs.length = len ∧ len ≤ cap ∧ len ≤ 1048600 ∧ (0 < len → ∃ b off, a = some ⟨b, off, none⟩ ∧ b < w.heap.size ∧
    ∀ j, j < len → w.cell? ⟨b, off + j * 2, none⟩ = some (.int .i64 (fAt cs j).1) ∧ w.cell? ⟨b, off + j * 2 + 1, none⟩ = some (.int .i64 (fAt cs j).2))
theorem IsFr.below {w w' : World} {a : Option Addr} {len cap : Nat} {cs : List Fr} (h : IsFr w a len cap cs) (hb : Below w.heap.size w w') : IsFr w' a len cap cs := by
  obtain ⟨h1, h2, h3, h4⟩ := h
  refine ⟨h1, h2, h3, fun hl => ?_⟩
  obtain ⟨b, off, e, hlt, hc⟩ := h4 hl
  exact ⟨b, off, e, Nat.lt_of_lt_of_le hlt hb.size, fun j hj => ⟨(hb.cell (p := ⟨b, off + j * 2, none⟩) hlt).trans (hc j hj).1, (hb.cell (p := ⟨b, off + j * 2 + 1, none⟩) hlt).trans (hc j hj).2⟩⟩
theorem IsFr.at {w : World} {a : Option Addr} {len cap : Nat} {cs : List Fr} (h : IsFr w a len cap cs) {i : Nat} (hi : i < len) : ∃ b off, a = some ⟨b, off, none⟩ ∧ b < w.heap.size ∧ w.cell? ⟨b, off + i * 2, none⟩ = some (.int .i64 (fAt cs i).1) ∧ w.cell? ⟨b, off + i * 2 + 1, none⟩ = some (.int .i64 (fAt cs i).2) := by
  obtain ⟨b, off, e, hlt, hc⟩ := h.2.2.2 (by omega)
  exact ⟨b, off, e, hlt, hc i hi⟩
theorem IsFr.of_owned {w : World} {base len cap : Nat} {e : TypeId} {a : Option Addr} {cs : List Fr} (h : w.ownsRow base e 2 (.slice a len cap) len (cellsF cs)) (hl : len ≤ 1048600) : IsFr w a len cap cs := by
  have hlen : cs.length = len := by have h1 := h.1; rw [cellsF_length] at h1; omega
  rcases h.2 with ⟨e1, e0⟩ | ⟨g, c, cur, e1, hb, hg, hcap, hmax, hcur, htake⟩
  · subst e0
    have hz : cs = [] := List.length_eq_zero_iff.1 hlen
    subst hz
    exact ⟨rfl, Nat.zero_le _, hl, fun hp => by omega⟩
  · injection e1 with e1 e2 e3
    subst e1
    subst e3
    refine ⟨hlen, hcap, hl, fun hp => ⟨g, 0, rfl, (h.lt g rfl).2, fun j hj => ⟨?_, ?_⟩⟩⟩
    · rw [Nat.zero_add, h.cellAt (j * 2) (by omega)]
      exact cellsF_num cs j (by omega)
    · rw [Nat.zero_add, h.cellAt (j * 2 + 1) (by omega)]
      exact cellsF_den cs j (by omega)
/-- Two stores into a row of fractions that is owned. -/
theorem owns_setF {w : World} {base n cap g : Nat} {e : TypeId} {cs : List Fr} (h : w.ownsRow base e 2 (.slice (some ⟨g, 0, none⟩) n cap) n (cellsF cs)) (k : Nat) (x y : Int) :
    ((w.setCell ⟨g, k * 2, none⟩ (.int .i64 x)).setCell ⟨g, k * 2 + 1, none⟩ (.int .i64 y)).ownsRow base e 2 (.slice (some ⟨g, 0, none⟩) n cap) n (cellsF (cs.set k (x, y))) ∧ w.grownBy ((w.setCell ⟨g, k * 2, none⟩ (.int .i64 x)).setCell ⟨g, k * 2 + 1, none⟩ (.int .i64 y)) (some g) := by
  have h1 := h.stored (k * 2) (.int .i64 x)
  have h2 := h1.1.stored (k * 2 + 1) (.int .i64 y)
  rw [cellsF_set] at h2
  refine ⟨h2.1, ⟨rfl, rfl, rfl, by simp [World.setCell], fun j hj hne => ?_⟩⟩
  exact (h2.2.block j (by simp [World.setCell]; exact hj) hne).trans (h1.2.block j hj hne)

/-- What two stores into such a row meet. -/
theorem meets_setF {w : World} {base n cap g : Nat} {e : TypeId} {cs : List Fr} (h : w.ownsRow base e 2 (.slice (some ⟨g, 0, none⟩) n cap) n (cellsF cs)) {k : Nat} (hk : k < n) (u : Value) :
    (w.cell? ⟨g, k * 2, none⟩ = some (.int .i64 (fAt cs k).1) ∧ w.frozen? ⟨g, k * 2, none⟩ = false) ∧ (w.setCell ⟨g, k * 2, none⟩ u).cell? ⟨g, k * 2 + 1, none⟩ = some (.int .i64 (fAt cs k).2) ∧ (w.setCell ⟨g, k * 2, none⟩ u).frozen? ⟨g, k * 2 + 1, none⟩ = false := by
  have hlen : cs.length = n := by have h1 := h.1; rw [cellsF_length] at h1; omega
  refine ⟨⟨?_, h.frozenAt _⟩, ?_, ?_⟩
  · rw [h.cellAt (k * 2) (by omega)]; exact cellsF_num cs k (by omega)
  · rw [World.cell?_setCell_other _ _ _ _ (by intro e; injection e with _ e2; omega), h.cellAt (k * 2 + 1) (by omega)]; exact cellsF_den cs k (by omega)
  · rw [World.frozen?_setCell]; exact h.frozenAt _


end Go.Proofs.Ytafnmongglhlaaa

namespace Go.Proofs.Ytafnmongglhlaaa
open Go.RowKit

/-- The cells of steps; each one's counts are n fractions in the block that G names. -/
def cellsS (n : Nat) : List (Nat × Nat) → List TfStp → List Value
  | g :: gs, s :: ss => .slice (some ⟨g.1, 0, none⟩) n g.2 :: .int .i64 s.2.1 :: .int .i64 (s.2.2 : Int) :: cellsS n gs ss
  | _, _ => []
theorem cellsS_length : ∀ (n : Nat) (gs : List (Nat × Nat)) (ss : List TfStp), gs.length = ss.length → (cellsS n gs ss).length = ss.length * 3
  | _, [], [], _ => rfl
  | n, g :: gs, s :: ss, h => by
    have := cellsS_length n gs ss (by simpa using h)
    simp only [cellsS, List.length_cons, this]; omega
theorem cellsS_snoc : ∀ (n : Nat) (gs : List (Nat × Nat)) (ss : List TfStp) (g : Nat × Nat) (s : TfStp), gs.length = ss.length → cellsS n (gs ++ [g]) (ss ++ [s]) = cellsS n gs ss ++ [.slice (some ⟨g.1, 0, none⟩) n g.2, .int .i64 s.2.1, .int .i64 (s.2.2 : Int)]
  | _, [], [], _, _, _ => rfl
  | n, a :: gs, b :: ss, g, s, h => by
    simp only [cellsS, List.cons_append]
    rw [cellsS_snoc n gs ss g s (by simpa using h)]
theorem cellsS_at : ∀ (n : Nat) (gs : List (Nat × Nat)) (ss : List TfStp) (j : Nat) (g : Nat × Nat) (s : TfStp), gs.length = ss.length → gs[j]? = some g → ss[j]? = some s → (cellsS n gs ss)[j * 3]? = some (.slice (some ⟨g.1, 0, none⟩) n g.2) ∧ (cellsS n gs ss)[j * 3 + 1]? = some (.int .i64 s.2.1) ∧ (cellsS n gs ss)[j * 3 + 2]? = some (.int .i64 (s.2.2 : Int))
  | _, [], _, j, _, _, _, hg, _ => by simp at hg
  | _, _ :: _, [], j, _, _, h, _, _ => by simp at h
  | n, a :: gs, b :: ss, 0, g, s, h, hg, hs => by
    obtain rfl : a = g := by simpa using hg
    obtain rfl : b = s := by simpa using hs
    exact ⟨rfl, rfl, rfl⟩
  | n, a :: gs, b :: ss, j + 1, g, s, h, hg, hs => by
    have := cellsS_at n gs ss j g s (by simpa using h) (by simpa using hg) (by simpa using hs)
    rw [show (j + 1) * 3 = j * 3 + 1 + 1 + 1 by omega]
    simp only [cellsS]
    rw [List.getElem?_cons_succ, List.getElem?_cons_succ, List.getElem?_cons_succ, show j * 3 + 1 + 1 + 1 + 1 = (j * 3 + 1) + 1 + 1 + 1 by omega, List.getElem?_cons_succ, List.getElem?_cons_succ, List.getElem?_cons_succ, show j * 3 + 1 + 1 + 1 + 2 = (j * 3 + 2) + 1 + 1 + 1 by omega, List.getElem?_cons_succ, List.getElem?_cons_succ, List.getElem?_cons_succ]
    exact this

/-- Rows of two types lie in two blocks. -/
theorem owns_apart {w : World} {b b' s s' n n' : Nat} {e e' : TypeId} {v v' : Value} {xs xs' : List Value} (hne : e ≠ e') (h : w.ownsRow b e s v n xs) (h' : w.ownsRow b' e' s' v' n' xs') : v.ownBlock = none ∨ v.ownBlock ≠ v'.ownBlock := by
  rcases h.2 with ⟨e1, _⟩ | ⟨g, c, cur, e1, _, hg, _⟩
  · subst e1; exact .inl rfl
  · right
    subst e1
    intro q
    rcases h'.2 with ⟨e2, _⟩ | ⟨g2, c2, cur2, e2, _, hg2, _⟩
    · subst e2; simp [Value.ownBlock] at q
    · subst e2
      simp [Value.ownBlock] at q
      subst q
      rw [hg] at hg2
      injection hg2 with hg2
      injection hg2 with _ hg2 _
      exact hne hg2

/-- Steps in memory of a call's own: a row of them, and for each one a row of its counts, all in blocks of their own from base on. -/
structure OwnSt (w : World) (base : Nat) (a : Option Addr) (cap n : Nat) (gs : List (Nat × Nat)) (ss : List TfStp) : Prop where
  len : gs.length = ss.length
  outer : w.ownsRow base 35 3 (.slice a ss.length cap) ss.length (cellsS n gs ss)
  inner : ∀ (j : Nat) (g : Nat × Nat) (s : TfStp), gs[j]? = some g → ss[j]? = some s → w.ownsRow base 40 2 (.slice (some ⟨g.1, 0, none⟩) n g.2) n (cellsF s.1)
  apart : (gs.map fun g => g.1).Nodup
theorem OwnSt.under {w w' : World} {base cap n : Nat} {a : Option Addr} {gs : List (Nat × Nat)} {ss : List TfStp} (h : OwnSt w base a cap n gs ss) (hb : Below w.heap.size w w') : OwnSt w' base a cap n gs ss :=
  ⟨h.len, owns_under h.outer hb, fun j g s h1 h2 => owns_under (h.inner j g s h1 h2) hb, h.apart⟩
theorem OwnSt.low {w : World} {base base' cap n : Nat} {a : Option Addr} {gs : List (Nat × Nat)} {ss : List TfStp} (h : OwnSt w base a cap n gs ss) (hb : base' ≤ base) : OwnSt w base' a cap n gs ss :=
  ⟨h.len, World.ownsRow.mono h.outer hb, fun j g s h1 h2 => World.ownsRow.mono (h.inner j g s h1 h2) hb, h.apart⟩

theorem OwnSt.lt {w : World} {base cap n : Nat} {a : Option Addr} {gs : List (Nat × Nat)} {ss : List TfStp} (h : OwnSt w base a cap n gs ss) : ∀ x ∈ gs.map fun g => g.1, x < w.heap.size := by
  intro x hx
  obtain ⟨g, hg, rfl⟩ := List.mem_map.1 hx
  obtain ⟨j, hj, rfl⟩ := List.getElem_of_mem hg
  have hs : ss[j]? = some (ss[j]'(by rw [← h.len]; exact hj)) := List.getElem?_eq_getElem _
  exact ((h.inner j _ _ (List.getElem?_eq_getElem hj) hs).lt _ rfl).2

/-- The slice value reads as these steps. -/
def IsSt (w : World) (a : Option Addr) (len cap : Nat) (ss : List TfStp) : Prop :=
  ss.length = len ∧ len ≤ cap ∧ len ≤ 1048600 ∧ (0 < len → ∃ b off, a = some ⟨b, off, none⟩ ∧ b < w.heap.size ∧
    ∀ j s, ss[j]? = some s → ∃ aj lj cj, w.cell? ⟨b, off + j * 3, none⟩ = some (.slice aj lj cj) ∧ w.cell? ⟨b, off + j * 3 + 1, none⟩ = some (.int .i64 s.2.1) ∧ w.cell? ⟨b, off + j * 3 + 2, none⟩ = some (.int .i64 (s.2.2 : Int)) ∧ IsFr w aj lj cj s.1)
theorem IsSt.below {w w' : World} {a : Option Addr} {len cap : Nat} {ss : List TfStp} (h : IsSt w a len cap ss) (hb : Below w.heap.size w w') : IsSt w' a len cap ss := by
  obtain ⟨h1, h2, h3, h4⟩ := h
  refine ⟨h1, h2, h3, fun hl => ?_⟩
  obtain ⟨b, off, e, hlt, hc⟩ := h4 hl
  refine ⟨b, off, e, Nat.lt_of_lt_of_le hlt hb.size, fun j s hs => ?_⟩
  obtain ⟨aj, lj, cj, k1, k2, k3, k4⟩ := hc j s hs
  exact ⟨aj, lj, cj, (hb.cell (p := ⟨b, off + j * 3, none⟩) hlt).trans k1, (hb.cell (p := ⟨b, off + j * 3 + 1, none⟩) hlt).trans k2, (hb.cell (p := ⟨b, off + j * 3 + 2, none⟩) hlt).trans k3, k4.below hb⟩
theorem IsSt.at {w : World} {a : Option Addr} {len cap : Nat} {ss : List TfStp} (h : IsSt w a len cap ss) {j : Nat} {s : TfStp} (hs : ss[j]? = some s) : ∃ b off aj lj cj, a = some ⟨b, off, none⟩ ∧ b < w.heap.size ∧ w.cell? ⟨b, off + j * 3, none⟩ = some (.slice aj lj cj) ∧ w.cell? ⟨b, off + j * 3 + 1, none⟩ = some (.int .i64 s.2.1) ∧ w.cell? ⟨b, off + j * 3 + 2, none⟩ = some (.int .i64 (s.2.2 : Int)) ∧ IsFr w aj lj cj s.1 := by
  have hj : j < ss.length := by
    by_cases g : j < ss.length
    · exact g
    · rw [List.getElem?_eq_none (by omega)] at hs; cases hs
  obtain ⟨b, off, e, hlt, hc⟩ := h.2.2.2 (by have := h.1; omega)
  obtain ⟨aj, lj, cj, k1, k2, k3, k4⟩ := hc j s hs
  exact ⟨b, off, aj, lj, cj, e, hlt, k1, k2, k3, k4⟩
theorem OwnSt.is {w : World} {base cap n : Nat} {a : Option Addr} {gs : List (Nat × Nat)} {ss : List TfStp} (h : OwnSt w base a cap n gs ss) (hl : ss.length ≤ 1048600) (hn : n ≤ 1048600) : IsSt w a ss.length cap ss := by
  have ho := h.outer
  rcases ho.2 with ⟨e1, e0⟩ | ⟨g, c, cur, e1, hb, hg, hcap, hmax, hcur, htake⟩
  · injection e1 with e1 e2 e3
    exact ⟨rfl, by omega, hl, fun hp => by omega⟩
  · injection e1 with e1 e2 e3
    subst e1
    subst e3
    refine ⟨rfl, hcap, hl, fun hp => ⟨g, 0, rfl, (ho.lt g rfl).2, fun j s hs => ?_⟩⟩
    have hj : j < ss.length := by
      by_cases q : j < ss.length
      · exact q
      · rw [List.getElem?_eq_none (by omega)] at hs; cases hs
    have hgs : gs[j]? = some (gs[j]'(by rw [h.len]; exact hj)) := List.getElem?_eq_getElem _
    obtain ⟨k1, k2, k3⟩ := cellsS_at n gs ss j _ s h.len hgs hs
    refine ⟨_, n, _, ?_, ?_, ?_, IsFr.of_owned (h.inner j _ s hgs hs) hn⟩
    · rw [Nat.zero_add, ho.cellAt (j * 3) (by omega)]; exact k1
    · rw [Nat.zero_add, ho.cellAt (j * 3 + 1) (by omega)]; exact k2
    · rw [Nat.zero_add, ho.cellAt (j * 3 + 2) (by omega)]; exact k3
/-- No step yet. -/
theorem OwnSt.start {w : World} {base cap n : Nat} {a : Option Addr} (h : w.ownsRow base 35 3 (.slice a 0 cap) 0 []) : OwnSt w base a cap n [] [] :=
  ⟨rfl, h, fun j g s h1 _ => by simp at h1, by simp⟩
/-- A step is appended: its counts lie in a block of their own. -/
theorem OwnSt.push {w w' : World} {base cap cap' n : Nat} {a a' : Option Addr} {gs : List (Nat × Nat)} {ss : List TfStp} {g : Nat × Nat} {s : TfStp} (h : OwnSt w base a cap n gs ss)
    (hx : w.ownsRow base 40 2 (.slice (some ⟨g.1, 0, none⟩) n g.2) n (cellsF s.1)) (hne : g.1 ∉ gs.map fun g => g.1)
    (ho : w'.ownsRow base 35 3 (.slice a' (ss.length + 1) cap') (ss.length + 1) (cellsS n gs ss ++ [.slice (some ⟨g.1, 0, none⟩) n g.2, .int .i64 s.2.1, .int .i64 (s.2.2 : Int)])) (hg : w.grownBy w' (Value.slice a ss.length cap).ownBlock) :
    OwnSt w' base a' cap' n (gs ++ [g]) (ss ++ [s]) := by
  have hER : (40 : TypeId) ≠ 35 := by decide
  have hown : ∀ (x : Nat × Nat) cs, w.ownsRow base 40 2 (.slice (some ⟨x.1, 0, none⟩) n x.2) n (cellsF cs) → w'.ownsRow base 40 2 (.slice (some ⟨x.1, 0, none⟩) n x.2) n (cellsF cs) := by
    intro x cs h3
    refine h3.kept hg ?_
    right
    intro e
    rcases h.outer.2 with ⟨e1, e0⟩ | ⟨g1, c, cur, e1, _, hg1, _⟩
    · injection e1 with e1 _ _
      subst e1
      simp [Value.ownBlock] at e
    · injection e1 with e1 _ _
      subst e1
      simp [Value.ownBlock] at e
      rcases h3.2 with ⟨e3, _⟩ | ⟨g3, c3, cur3, e3, _, hg3, _⟩
      · simp at e3
      · injection e3 with e3 _ _
        injection e3 with e3
        injection e3 with e3 _ _
        rw [e3] at e
        rw [e, hg1] at hg3
        injection hg3 with hg3
        injection hg3 with _ hg3 _
        exact hER hg3.symm
  refine ⟨by simp [h.len], ?_, fun j x t h1 h2 => ?_, ?_⟩
  · rw [cellsS_snoc n gs ss g s h.len, List.length_append]; exact ho
  · by_cases e : j < gs.length
    · rw [List.getElem?_append_left e] at h1
      rw [List.getElem?_append_left (by rw [← h.len]; exact e)] at h2
      exact hown _ _ (h.inner j x t h1 h2)
    · have hj : j = gs.length := by
        by_cases q : j = gs.length
        · exact q
        · rw [List.getElem?_eq_none (by simp; omega)] at h1; cases h1
      subst hj
      simp at h1
      rw [h.len] at h2
      simp at h2
      subst h1
      subst h2
      exact hown _ _ hx
  · rw [List.map_append, List.nodup_append]
    refine ⟨h.apart, by simp, ?_⟩
    intro x hx y hy e
    simp at hy
    subst hy
    subst e
    exact hne hx
/-- What is told of steps that are returned with a bool. -/
def ToldS (w : World) (n : Nat) (ss : List TfStp) (ok : Bool) (e : Ending) (w' : World) : Prop := ∃ a cap gs, e = .returned (.tuple #[.slice a ss.length cap, .bool ok]) ∧ OwnSt w' w.heap.size a cap n gs ss ∧ Below w.heap.size w w'

end Go.Proofs.Ytafnmongglhlaaa

namespace Go.Proofs.Ytafnmongglhlaaa
open Go.RowKit

theorem bool_info : (Try.prog.info? 4).map (fun i => (i.zero, i.size, i.bytes)) = some (some (.bool false), 1, 1) := by kernel_rfl

/-- What a row that is owned says to a reader. -/
theorem IsBools.of_owns {w : World} {base g len cap : Nat} {zs : List Bool} (h : w.ownsRow base 4 1 (.slice (some ⟨g, 0, none⟩) len cap) len (zs.map Value.bool)) (hl : len ≤ 1048600) : IsBools w (some ⟨g, 0, none⟩) len cap zs := by
  have hlen : zs.length = len := by have := h.1; simpa using this
  have hcap : len ≤ cap := by
    rcases h.2 with ⟨e, _⟩ | ⟨_, c, _, e, _, _, hc, _⟩
    · cases e
    · injection e with _ _ e3; omega
  refine ⟨hlen, hcap, hl, fun hp => ⟨g, 0, rfl, ?_, fun j hj => ?_⟩⟩
  · exact (h.lt g rfl).2
  · rw [Nat.zero_add, h.cellAt j (by omega)]
    simp [show j < zs.length from by omega]

/-- The first k of zs, then false ones: what toBoolS has written when k rounds are over. -/
def fillToB (zs : List Bool) (len k : Nat) : List Bool := zs.take k ++ List.replicate (len - k) false
theorem fillToB_step (zs : List Bool) (len k : Nat) (hz : zs.length = len) (hk : k < len) : ((fillToB zs len k).map Value.bool).set k (.bool (zs[k]?.getD false)) = (fillToB zs len (k + 1)).map Value.bool := by
  have e : len - k = (len - (k + 1)) + 1 := by omega
  unfold fillToB
  rw [e, List.replicate_succ, List.take_succ_eq_append_getElem (by omega)]
  have hl : ((zs.take k).map Value.bool).length = k := by simp; omega
  simp only [List.map_append, List.map_cons, List.append_assoc, List.cons_append, List.nil_append]
  rw [List.set_append_right _ _ (by omega), hl, Nat.sub_self, List.set_cons_zero]
  simp [show k < zs.length from by omega]
theorem fillToB_all (zs : List Bool) (len : Nat) (hz : zs.length = len) : fillToB zs len len = zs := by simp [fillToB, ← hz]

/-- Two lists of bools are equal. -/
def eqBB (zs ys : List Bool) : Bool := decide (zs = ys)
theorem eqBB_self (zs : List Bool) : eqBB zs zs = true := by simp [eqBB]
theorem take_stepB (zs ys : List Bool) (k : Nat) (hz : k < zs.length) (hy : k < ys.length) (h : zs.take k = ys.take k) (he : zs[k]?.getD false = ys[k]?.getD false) : zs.take (k + 1) = ys.take (k + 1) := by
  rw [List.take_succ_eq_append_getElem hz, List.take_succ_eq_append_getElem hy, h]
  simp [hz, hy] at he
  rw [he]
theorem take_partB (zs ys : List Bool) (k : Nat) (he : (zs[k]?.getD false == ys[k]?.getD false) = false) : eqBB zs ys = false := by
  simp only [eqBB, decide_eq_false_iff_not]
  rintro rfl
  simp at he

end Go.Proofs.Ytafnmongglhlaaa

namespace Go.Proofs.Ytafnmongglhlaaa
open Go.RowKit

/-- From w to w' only blocks from base on of types that P names have changed, of those that were there. -/
structure Chg (base : Nat) (P : TypeId → Prop) (w w' : World) : Prop where
  os : w'.os = w.os
  tape : w'.tape = w.tape
  output : w'.output = w.output
  size : w.heap.size ≤ w'.heap.size
  block : ∀ k, k < w.heap.size → (k < base ∨ ∀ cur e z, w.heap[k]? = some (.cells cur e z) → ¬ P e) → w'.heap[k]? = w.heap[k]?
section
variable {base : Nat} {P : TypeId → Prop} {w w' w'' : World}
theorem Chg.refl (base : Nat) (P : TypeId → Prop) (w : World) : Chg base P w w := ⟨rfl, rfl, rfl, Nat.le_refl _, fun _ _ _ => rfl⟩
theorem Chg.trans (h : Chg base P w w') (g : Chg base P w' w'') : Chg base P w w'' :=
  ⟨g.os.trans h.os, g.tape.trans h.tape, g.output.trans h.output, Nat.le_trans h.size g.size, fun k hk hc => by
    have h1 := h.block k hk hc
    refine (g.block k (Nat.lt_of_lt_of_le hk h.size) ?_).trans h1
    rcases hc with h2 | h2
    · exact .inl h2
    · exact .inr fun cur e z he => h2 cur e z (by rw [← h1]; exact he)⟩
theorem Chg.of_below (h : Below w.heap.size w w') : Chg base P w w' := ⟨h.os, h.tape, h.output, h.size, fun k hk _ => h.block k hk⟩
theorem Chg.below (h : Chg base P w w') (hb : base ≤ w.heap.size) : Below base w w' := ⟨h.os, h.tape, h.output, h.size, fun k hk => h.block k (Nat.lt_of_lt_of_le hk hb) (.inl hk)⟩
theorem Chg.on (h : Chg base P w w') (g : Below w'.heap.size w' w'') : Chg base P w w'' := h.trans (Chg.of_below g)
theorem Chg.set (h : Chg base P w w') {g o : Nat} {cur : Array Value} {e : TypeId} {z : Nat × Nat} (hg : w'.heap[g]? = some (.cells cur e z)) (hb : base ≤ g) (hp : P e) (v : Value) : Chg base P w (w'.setCell ⟨g, o, none⟩ v) := by
  refine h.trans ⟨rfl, rfl, rfl, by simp [World.setCell], fun k hk hc => ?_⟩
  by_cases e1 : k = g
  · subst e1
    rcases hc with h2 | h2
    · omega
    · exact absurd hp (h2 _ _ _ hg)
  · exact Below.heap_setCell _ _ _ _ e1
theorem owns_chg {b n size : Nat} {e : TypeId} {v : Value} {xs : List Value} (h : w.ownsRow b e size v n xs) (hc : Chg base P w w') (he : ¬ P e) : w'.ownsRow b e size v n xs := by
  refine ⟨h.1, ?_⟩
  rcases h.2 with hn | ⟨g, cap, cur, h1, h2, h3, h4⟩
  · exact .inl hn
  · refine .inr ⟨g, cap, cur, h1, h2, ?_, h4⟩
    rw [hc.block g (Array.getElem?_eq_some_iff.1 h3).1 (.inr fun cur' e' z he' => ?_)]
    · exact h3
    · rw [h3] at he'
      injection he' with he'
      injection he' with _ e2 _
      rw [← e2]; exact he
end
/-- What stands in a block. -/
theorem blk_cell {w : World} {g : Nat} {c : Array Value} {e : TypeId} {z : Nat × Nat} (h : w.heap[g]? = some (.cells c e z)) (i : Nat) : w.cell? ⟨g, i, none⟩ = c[i]? := by simp [World.cell?, h]
theorem blk_frozen {w : World} {g : Nat} {c : Array Value} {e : TypeId} (h : w.heap[g]? = some (.cells c e (0, 0))) (i : Nat) : w.frozen? ⟨g, i, none⟩ = false := by simp [World.frozen?, h]
theorem blk_lt {w : World} {g : Nat} {o : Obj} (h : w.heap[g]? = some o) : g < w.heap.size := (Array.getElem?_eq_some_iff.1 h).1
theorem blk_set {w : World} {g : Nat} {c : Array Value} {e : TypeId} {z : Nat × Nat} (h : w.heap[g]? = some (.cells c e z)) (i : Nat) (v : Value) : (w.setCell ⟨g, i, none⟩ v).heap[g]? = some (.cells (c.setIfInBounds i v) e z) := by
  simp [World.setCell, Array.getElem?_modify, h]
theorem blk_other {w : World} {g k i : Nat} {v : Value} (hne : k ≠ g) : (w.setCell ⟨g, i, none⟩ v).heap[k]? = w.heap[k]? := Below.heap_setCell _ _ _ _ hne
theorem blk_under {w w' : World} {g : Nat} {o : Obj} (h : w.heap[g]? = some o) (hb : Below w.heap.size w w') : w'.heap[g]? = some o := (hb.block g (blk_lt h)).trans h
theorem blk_new (w : World) (o : Obj) : (w.alloc o).heap[w.heap.size]? = some o := by
  rw [show (w.alloc o).heap = w.heap.push o from rfl]; simp
theorem blk_chg {base : Nat} {P : TypeId → Prop} {w w' : World} {g : Nat} {c : Array Value} {e : TypeId} {z : Nat × Nat} (h : w.heap[g]? = some (.cells c e z)) (hc : Chg base P w w') (he : ¬ P e) : w'.heap[g]? = some (.cells c e z) := by
  rw [hc.block g (blk_lt h) (.inr fun cur' e' z' he' => ?_)]
  · exact h
  · rw [h] at he'
    injection he' with he'
    injection he' with _ e2 _
    rw [← e2]; exact he
/-- A row does not lie in a block of another type. -/
theorem owns_not_blk {w : World} {b n s g : Nat} {c : Array Value} {e e' : TypeId} {z : Nat × Nat} {v : Value} {xs : List Value} (h : w.ownsRow b e s v n xs) (hg : w.heap[g]? = some (.cells c e' z)) (hne : e ≠ e') : v.ownBlock = none ∨ v.ownBlock ≠ some g := by
  rcases h.2 with ⟨e1, _⟩ | ⟨g1, c1, cur1, e1, _, hg1, _⟩
  · subst e1; exact .inl rfl
  · subst e1
    right
    intro q
    simp [Value.ownBlock] at q
    subst q
    rw [hg] at hg1
    injection hg1 with hg1
    injection hg1 with _ hg1 _
    exact hne hg1.symm
theorem owns_set_blk {w : World} {b n s g i : Nat} {c : Array Value} {e e' : TypeId} {z : Nat × Nat} {v u : Value} {xs : List Value} (h : w.ownsRow b e s v n xs) (hg : w.heap[g]? = some (.cells c e' z)) (hne : e ≠ e') : (w.setCell ⟨g, i, none⟩ u).ownsRow b e s v n xs :=
  h.kept (row := some g) ⟨rfl, rfl, rfl, by simp [World.setCell], fun k _ hk => blk_other (fun e => hk (by rw [e]))⟩ (owns_not_blk h hg hne)

/-- A pile in memory: its ballot, its number, its weight. -/
def pileC (a : Option Addr) (l c : Nat) (m : Int) (f : Fr) : Array Value := #[.slice a l c, .int .i64 m, .int .i64 f.1, .int .i64 f.2]
/-- Where things lie. -/
structure TR where
  ap : Option Addr
  cp : Nat
  gs : Nat
  cs : Nat
  gg : Nat
  cg : Nat
  B : Nat → Nat
  ba : Nat → Option Addr
  bc : Nat → Nat
/-- The first m piles, each in a block of its own. -/
structure PM (w : World) (base : Nat) (R : TR) (ps : List Pl) (ws : List Fr) (m : Nat) : Prop where
  pile : ∀ j, j < m → w.heap[R.B j]? = some (.cells (pileC (R.ba j) (parseL (tAt ps j)).length (R.bc j) (mAt ps j) (tfW ws j)) 158 (0, 0))
  low : ∀ j, j < m → base ≤ R.B j
  ballot : ∀ j, j < m → w.ownsRow (R.gs + 1) 3 1 (.slice (R.ba j) (parseL (tAt ps j)).length (R.bc j)) (parseL (tAt ps j)).length ((parseL (tAt ps j)).map (Value.int .i64))
  inj : ∀ i j, i < m → j < m → R.B i = R.B j → i = j
/-- Pointers to the blocks of some piles. -/
def ptrs (B : Nat → Nat) (L : List Nat) : List Value := L.map fun j => .pointer (some ⟨B j, 0, none⟩)
theorem ptrs_length (B : Nat → Nat) (L : List Nat) : (ptrs B L).length = L.length := by simp [ptrs]
/-- A transfer on its way, its block's cells, m of its piles. -/
structure TS (w : World) (base T : Nat) (R : TR) (ps : List Pl) (lots : List Int) (q : Int) (S : TfS) (m : Nat) : Prop where
  blk : w.heap[T]? = some (.cells #[.slice R.ap m R.cp, .slice (some ⟨R.gs, 0, none⟩) (thereL lots (tfG S.gs)).length R.cs, .slice (some ⟨R.gg, 0, none⟩) lots.length R.cg, .int .i64 (S.s : Int), .int .i64 q] 115 (0, 0))
  low : base ≤ T
  piles : w.ownsRow base 143 1 (.slice R.ap m R.cp) m (ptrs R.B (List.range m))
  stay : w.ownsRow base 3 1 (.slice (some ⟨R.gs, 0, none⟩) (thereL lots (tfG S.gs)).length R.cs) (thereL lots (tfG S.gs)).length ((thereL lots (tfG S.gs)).map (Value.int .i64))
  gone : w.ownsRow base 4 1 (.slice (some ⟨R.gg, 0, none⟩) lots.length R.cg) lots.length (S.gs.map Value.bool)
  pm : PM w base R ps S.ws m
theorem PM.under {w w' : World} {base : Nat} {R : TR} {ps : List Pl} {ws : List Fr} {m : Nat} (h : PM w base R ps ws m) (hb : Below w.heap.size w w') : PM w' base R ps ws m :=
  ⟨fun j hj => blk_under (h.pile j hj) hb, h.low, fun j hj => owns_under (h.ballot j hj) hb, h.inj⟩
theorem TS.under {w w' : World} {base T : Nat} {R : TR} {ps : List Pl} {lots : List Int} {q : Int} {S : TfS} {m : Nat} (h : TS w base T R ps lots q S m) (hb : Below w.heap.size w w') : TS w' base T R ps lots q S m :=
  ⟨blk_under h.blk hb, h.low, owns_under h.piles hb, owns_under h.stay hb, owns_under h.gone hb, h.pm.under hb⟩
theorem PM.chg {b : Nat} {P : TypeId → Prop} {w w' : World} {base : Nat} {R : TR} {ps : List Pl} {ws : List Fr} {m : Nat} (h : PM w base R ps ws m) (hc : Chg b P w w') (h1 : ¬ P 158) (h2 : ¬ P 3) : PM w' base R ps ws m :=
  ⟨fun j hj => blk_chg (h.pile j hj) hc h1, h.low, fun j hj => owns_chg (h.ballot j hj) hc h2, h.inj⟩
theorem TS.chg {b : Nat} {P : TypeId → Prop} {w w' : World} {base T : Nat} {R : TR} {ps : List Pl} {lots : List Int} {q : Int} {S : TfS} {m : Nat} (h : TS w base T R ps lots q S m) (hc : Chg b P w w') (h1 : ¬ P 158) (h2 : ¬ P 3) (h3 : ¬ P 4) (h4 : ¬ P 143) (h5 : ¬ P 115) : TS w' base T R ps lots q S m :=
  ⟨blk_chg h.blk hc h5, h.low, owns_chg h.piles hc h4, owns_chg h.stay hc h2, owns_chg h.gone hc h3, h.pm.chg hc h1 h2⟩
/-- What a transfer's step may change. -/
def stepP (e : TypeId) : Prop := e = 158 ∨ e = 3 ∨ e = 4 ∨ e = 115
/-- The piles that count for a candidate, of the first i. -/
def heldL (ps : List Pl) (gs : List Bool) (k i : Nat) : List Nat := (List.range i).filter fun j => decide (tfFst ps gs j = (k : Int))
theorem heldL_mem {ps : List Pl} {gs : List Bool} {k i j : Nat} : j ∈ heldL ps gs k i ↔ j < i ∧ tfFst ps gs j = (k : Int) := by simp [heldL]
theorem heldL_hit {ps : List Pl} {gs : List Bool} {k i : Nat} (h : tfFst ps gs i = (k : Int)) : heldL ps gs k (i + 1) = heldL ps gs k i ++ [i] := by simp [heldL, List.range_succ, List.filter_append, h]
theorem heldL_miss {ps : List Pl} {gs : List Bool} {k i : Nat} (h : tfFst ps gs i ≠ (k : Int)) : heldL ps gs k (i + 1) = heldL ps gs k i := by simp [heldL, List.range_succ, List.filter_append, h]
theorem heldL_zero (ps : List Pl) (gs : List Bool) (k : Nat) : heldL ps gs k 0 = [] := rfl
theorem heldL_short (ps : List Pl) (gs : List Bool) (k i : Nat) : (heldL ps gs k i).length ≤ i := by
  have := List.length_filter_le (fun j => decide (tfFst ps gs j = (k : Int))) (List.range i)
  simpa [heldL] using this
/-- The sum over some piles. -/
def sumW (ps : List Pl) (ws : List Fr) (L : List Nat) : Fr := L.foldl (fun c j => tfAdd c (tfW ws j) (mAt ps j)) (0, 1)
theorem sumW_snoc (ps : List Pl) (ws : List Fr) (L : List Nat) (j : Nat) : sumW ps ws (L ++ [j]) = tfAdd (sumW ps ws L) (tfW ws j) (mAt ps j) := by simp [sumW]
theorem sumW_held (ps : List Pl) (ws : List Fr) (gs : List Bool) (k : Nat) : ∀ i, sumW ps ws (heldL ps gs k i) = tfCnt ps ws gs k i
  | 0 => rfl
  | i + 1 => by
    by_cases h : tfFst ps gs i = (k : Int)
    · rw [heldL_hit h, sumW_snoc, sumW_held ps ws gs k i, tfCnt_hit h]
    · rw [heldL_miss h, sumW_held ps ws gs k i, tfCnt_miss h]
theorem takeN_snoc {L : List Nat} {i : Nat} (h : i < L.length) : L.take (i + 1) = L.take i ++ [L[i]?.getD 0] := by
  rw [List.take_succ_eq_append_getElem h]; simp [h]

end Go.Proofs.Ytafnmongglhlaaa
