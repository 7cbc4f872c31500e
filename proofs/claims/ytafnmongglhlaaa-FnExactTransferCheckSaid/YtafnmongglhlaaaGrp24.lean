/-
  The queue of steps in memory: its block, a block for each step, the steps' counts; put and take. It changes no block of another type.
  queueSteps of impl: all steps in a queue, in memory of its own, or nothing where the arguments are not valid; it writes into no memory that was there.
-/
import Derived.Test.YtafnmongglhlaaaGrp23
namespace Go.Proofs.Ytafnmongglhlaaa
open Go.RowKit

attribute [local go_sem] Oper.semAt_some

/-- The pointer to the j-th block, or nil. -/
def ptrN (nb : List Nat) (j : Nat) : Value := match nb[j]? with
  | some b => .pointer (some ⟨b, 0, none⟩)
  | none => .pointer none
def nodeC (n : Nat) (g : Nat × Nat) (s : TfStp) (v : Value) : Array Value := #[.slice (some ⟨g.1, 0, none⟩) n g.2, .int .i64 s.2.1, .int .i64 (s.2.2 : Int), v]
/-- A queue in memory. -/
structure QS (w : World) (base n Q : Nat) (L : Value) (nb : List Nat) (gl : List (Nat × Nat)) (ss : List TfStp) : Prop where
  blk : w.heap[Q]? = some (Obj.cells #[ptrN nb 0, L] 111 (0, 0))
  low : base ≤ Q
  ln : nb.length = ss.length
  lg : gl.length = ss.length
  node : ∀ (j b : Nat) (g : Nat × Nat) (s : TfStp), nb[j]? = some b → gl[j]? = some g → ss[j]? = some s → w.heap[b]? = some (Obj.cells (nodeC n g s (ptrN nb (j + 1))) 119 (0, 0))
  nlow : ∀ (j b : Nat), nb[j]? = some b → base ≤ b
  row : ∀ (j : Nat) (g : Nat × Nat) (s : TfStp), gl[j]? = some g → ss[j]? = some s → w.ownsRow base 40 2 (.slice (some ⟨g.1, 0, none⟩) n g.2) n (cellsF s.1)
  apart : (gl.map fun g => g.1).Nodup
  nd : nb.Nodup
def queP (e : TypeId) : Prop := e = 119 ∨ e = 111
theorem QS.chg {b : Nat} {P : TypeId → Prop} {w w' : World} {base n Q : Nat} {L : Value} {nb : List Nat} {gl : List (Nat × Nat)} {ss : List TfStp} (h : QS w base n Q L nb gl ss) (hc : Chg b P w w') (h1 : ¬ P 111) (h2 : ¬ P 119) (h3 : ¬ P 40) : QS w' base n Q L nb gl ss :=
  ⟨blk_chg h.blk hc h1, h.low, h.ln, h.lg, fun j b g s a1 a2 a3 => blk_chg (h.node j b g s a1 a2 a3) hc h2, h.nlow, fun j g s a1 a2 => owns_chg (h.row j g s a1 a2) hc h3, h.apart, h.nd⟩
theorem QS.under {w w' : World} {base n Q : Nat} {L : Value} {nb : List Nat} {gl : List (Nat × Nat)} {ss : List TfStp} (h : QS w base n Q L nb gl ss) (hb : Below w.heap.size w w') : QS w' base n Q L nb gl ss :=
  h.chg (b := base) (P := fun _ => False) (Chg.of_below hb) id id id
theorem QS.start {w : World} {base n Q : Nat} (h : w.heap[Q]? = some (Obj.cells #[.pointer none, .pointer none] 111 (0, 0))) (hb : base ≤ Q) : QS w base n Q (.pointer none) [] [] [] :=
  ⟨h, hb, rfl, rfl, fun j b g s a => by simp at a, fun j b a => by simp at a, fun j g s a => by simp at a, by simp, by simp⟩
theorem ptrN_snoc_lt {nb : List Nat} {b j : Nat} (h : j < nb.length) : ptrN (nb ++ [b]) j = ptrN nb j := by unfold ptrN; rw [List.getElem?_append_left h]
theorem ptrN_snoc_at {nb : List Nat} {b : Nat} : ptrN (nb ++ [b]) nb.length = .pointer (some ⟨b, 0, none⟩) := by unfold ptrN; simp
theorem ptrN_end {nb : List Nat} {j : Nat} (h : nb.length ≤ j) : ptrN nb j = .pointer none := by unfold ptrN; rw [List.getElem?_eq_none h]
theorem snoc_at {α : Type} {l : List α} {x y : α} {j : Nat} (h : (l ++ [x])[j]? = some y) : (j < l.length ∧ l[j]? = some y) ∨ (j = l.length ∧ x = y) := by
  rcases Nat.lt_trichotomy j l.length with q | q | q
  · left; rw [List.getElem?_append_left q] at h; exact ⟨q, h⟩
  · right; subst q; simp at h; exact ⟨rfl, h⟩
  · rw [List.getElem?_eq_none (by simp; omega)] at h; cases h
/-- A block of the queue's behind the last. -/
theorem QS.push {w w' : World} {base n Q b : Nat} {L : Value} {nb : List Nat} {gl : List (Nat × Nat)} {ss : List TfStp} {g : Nat × Nat} {s : TfStp} (h : QS w base n Q L nb gl ss)
    (hq : w'.heap[Q]? = some (Obj.cells #[ptrN (nb ++ [b]) 0, .pointer (some ⟨b, 0, none⟩)] 111 (0, 0)))
    (hold : ∀ (j b' : Nat) (g' : Nat × Nat) (s' : TfStp), nb[j]? = some b' → gl[j]? = some g' → ss[j]? = some s' → w'.heap[b']? = some (Obj.cells (nodeC n g' s' (ptrN (nb ++ [b]) (j + 1))) 119 (0, 0)))
    (hnew : w'.heap[b]? = some (Obj.cells (nodeC n g s (.pointer none)) 119 (0, 0))) (hb : base ≤ b) (hrows : ∀ (j : Nat) (g' : Nat × Nat) (s' : TfStp), gl[j]? = some g' → ss[j]? = some s' → w'.ownsRow base 40 2 (.slice (some ⟨g'.1, 0, none⟩) n g'.2) n (cellsF s'.1))
    (hrow : w'.ownsRow base 40 2 (.slice (some ⟨g.1, 0, none⟩) n g.2) n (cellsF s.1)) (hg : g.1 ∉ gl.map fun g => g.1) (hbn : b ∉ nb) :
    QS w' base n Q (.pointer (some ⟨b, 0, none⟩)) (nb ++ [b]) (gl ++ [g]) (ss ++ [s]) := by
  refine ⟨hq, h.low, by simp [h.ln], by simp [h.lg], fun j b' g' s' a1 a2 a3 => ?_, fun j b' a1 => ?_, fun j g' s' a2 a3 => ?_, ?_, ?_⟩
  · rcases snoc_at a1 with ⟨q1, p1⟩ | ⟨q1, p1⟩
    · rw [List.getElem?_append_left (by rw [h.lg, ← h.ln]; exact q1)] at a2
      rw [List.getElem?_append_left (by rw [← h.ln]; exact q1)] at a3
      exact hold j b' g' s' p1 a2 a3
    · subst p1
      rcases snoc_at a2 with ⟨q2, p2⟩ | ⟨q2, p2⟩
      · have := h.ln; have := h.lg; omega
      · rcases snoc_at a3 with ⟨q3, p3⟩ | ⟨q3, p3⟩
        · have := h.ln; omega
        · subst p2; subst p3
          rw [ptrN_end (by simp; omega)]; exact hnew
  · rcases snoc_at a1 with ⟨q1, p1⟩ | ⟨q1, p1⟩
    · exact h.nlow j b' p1
    · subst p1; exact hb
  · rcases snoc_at a2 with ⟨q2, p2⟩ | ⟨q2, p2⟩
    · rw [List.getElem?_append_left (by rw [← h.lg]; exact q2)] at a3
      exact hrows j g' s' p2 a3
    · rcases snoc_at a3 with ⟨q3, p3⟩ | ⟨q3, p3⟩
      · have := h.lg; omega
      · subst p2; subst p3; exact hrow
  · rw [List.map_append, List.nodup_append]
    refine ⟨h.apart, by simp, fun x hx y hy => ?_⟩
    simp at hy
    intro e; rw [e, hy] at hx; exact hg hx
  · rw [List.nodup_append]
    refine ⟨h.nd, by simp, fun x hx y hy => ?_⟩
    simp at hy
    intro e; rw [e, hy] at hx; exact hbn hx

set_option maxRecDepth 100000 in
set_option maxHeartbeats 2000000 in
/-- **put**. -/
theorem put_as (base n Q : Nat) (L : Value) (nb : List Nat) (gl : List (Nat × Nat)) (ss : List TfStp) (g c : Nat) (cs : List Fr) (who : Int) (kind : Nat) (w : World) (h : QS w base n Q L nb gl ss) (hbs : base ≤ w.heap.size) (hL : nb ≠ [] → L = ptrN nb (nb.length - 1))
    (hr : w.ownsRow base 40 2 (.slice (some ⟨g, 0, none⟩) n c) n (cellsF cs)) (hg : g ∉ gl.map fun g => g.1) :
    Calls Try.prog 77 #[.pointer (some ⟨Q, 0, none⟩), .agg #[.slice (some ⟨g, 0, none⟩) n c, .int .i64 who, .int .i64 (kind : Int)]] w fun e w' => e = .returned (.tuple #[]) ∧ ∃ b, QS w' base n Q (.pointer (some ⟨b, 0, none⟩)) (nb ++ [b]) (gl ++ [(g, c)]) (ss ++ [(cs, who, kind)]) ∧ Chg base queP w w' := by
  obtain ⟨w1, hw1⟩ : ∃ w1, w.alloc (.cells #[.slice (some ⟨g, 0, none⟩) n c, .int .i64 who, .int .i64 (kind : Int)] 35) = w1 := ⟨_, rfl⟩
  obtain ⟨w2, hw2⟩ : ∃ w2, w1.alloc (.cells #[.slice (some ⟨g, 0, none⟩) n c, .int .i64 who, .int .i64 (kind : Int), .pointer none] 119) = w2 := ⟨_, rfl⟩
  have b1 : Below w.heap.size w w1 := by rw [← hw1]; exact (Below.refl _ _).alloc (Nat.le_refl _) _
  have b12 : Below w1.heap.size w1 w2 := by rw [← hw2]; exact (Below.refl _ _).alloc (Nat.le_refl _) _
  have b2 := below_on b1 b12
  have s0 : w1.cell? ⟨w.heap.size, 0, none⟩ = some (.slice (some ⟨g, 0, none⟩) n c) := by rw [← hw1]; exact World.cell?_alloc_new w _ _ 0
  have s1 : w1.cell? ⟨w.heap.size, 1, none⟩ = some (.int .i64 who) := by rw [← hw1]; exact World.cell?_alloc_new w _ _ 1
  have s2 : w1.cell? ⟨w.heap.size, 2, none⟩ = some (.int .i64 (kind : Int)) := by rw [← hw1]; exact World.cell?_alloc_new w _ _ 2
  have N2 : w2.heap[w1.heap.size]? = some (Obj.cells #[.slice (some ⟨g, 0, none⟩) n c, .int .i64 who, .int .i64 (kind : Int), .pointer none] 119 (0, 0)) := by rw [← hw2]; exact blk_new _ _
  have H2 := Lib.hid (h.under b2)
  have R2 := Lib.hid (owns_under hr b2)
  have hsz := b1.size
  have HG := Lib.hid hg
  have HB2 := Lib.hid b2
  have HN2 := Lib.hid N2
  have hbn : w1.heap.size ∉ nb := fun hm => by
    obtain ⟨j, hj, he⟩ := List.getElem_of_mem hm
    have hj2 : j < ss.length := by rw [← h.ln]; exact hj
    have hj3 : j < gl.length := by rw [h.lg]; exact hj2
    have := blk_lt (h.node j _ _ _ (List.getElem?_eq_getElem hj) (List.getElem?_eq_getElem hj3) (List.getElem?_eq_getElem hj2))
    rw [he] at this
    omega
  have q0 : w2.cell? ⟨Q, 0, none⟩ = some (ptrN nb 0) := blk_cell H2.out.blk 0
  have q1 : w2.cell? ⟨Q, 1, none⟩ = some L := blk_cell H2.out.blk 1
  have f0 : w2.frozen? ⟨Q, 0, none⟩ = false := blk_frozen H2.out.blk 0
  have hQn : Q ≠ w1.heap.size := blk_ne H2.out.blk N2 (by decide)
  have C2 := Lib.hid (Chg.of_below (base := base) (P := queP) b2)
  have hrowk : ∀ {b' n' s' : Nat} {v : Value} {xs : List Value} {w3 : World}, w2.ownsRow b' 40 s' v n' xs → Chg base queP w2 w3 → w3.ownsRow b' 40 s' v n' xs := fun h1 h2 => owns_chg h1 h2 (by unfold queP; decide)
  clear h hr hg b1 b12 b2 N2
  cases nb with
  | nil =>
    have q0' : w2.cell? ⟨Q, 0, none⟩ = some (.pointer none) := q0
    have t1 := blk_set H2.out.blk 0 (.pointer (some ⟨w1.heap.size, 0, none⟩))
    have q1' : (w2.setCell ⟨Q, 0, none⟩ (.pointer (some ⟨w1.heap.size, 0, none⟩))).cell? ⟨Q, 1, none⟩ = _ := blk_cell t1 1
    have f1' : (w2.setCell ⟨Q, 0, none⟩ (.pointer (some ⟨w1.heap.size, 0, none⟩))).frozen? ⟨Q, 1, none⟩ = false := blk_frozen t1 1
    have t2 := blk_set t1 1 (.pointer (some ⟨w1.heap.size, 0, none⟩))
    clear q0
    go_enter Try.func77, Try.ntmps77
    go_wp2_with fail
    go_end0
    have hc := ((Chg.refl base queP w2).set (o := 0) H2.out.blk H2.out.low (.inr rfl) (.pointer (some ⟨w1.heap.size, 0, none⟩))).set (o := 1) t1 H2.out.low (.inr rfl) (.pointer (some ⟨w1.heap.size, 0, none⟩))
    have hz := List.length_eq_zero_iff.1 (show ss.length = 0 by rw [← H2.out.ln]; rfl)
    refine ⟨rfl, w1.heap.size, H2.out.push ?_ (fun j b' g' s' a => by simp at a) ?_ (by have := HB2.out.size; omega) (fun j g' s' a1 a2 => hrowk (H2.out.row j g' s' a1 a2) hc) (hrowk R2.out hc) HG.out (by simp), C2.out.trans hc⟩
    · rw [t2]; simp [ptrN]
    · rw [blk_other (Ne.symm hQn), blk_other (Ne.symm hQn)]; exact HN2.out
  | cons b0 nt =>
    obtain ⟨nb, hnb⟩ : ∃ nb, b0 :: nt = nb := ⟨_, rfl⟩
    have hp0 : ptrN nb 0 = .pointer (some ⟨b0, 0, none⟩) := by rw [← hnb]; rfl
    rw [hnb] at H2 hL hbn q0 ⊢
    have hne : nb ≠ [] := by rw [← hnb]; simp
    have hlp : 0 < nb.length := List.length_pos_iff.2 hne
    have hlast := List.getElem?_eq_getElem (l := nb) (i := nb.length - 1) (by omega)
    obtain ⟨bl, hbl⟩ : ∃ bl, nb[nb.length - 1]'(by omega) = bl := ⟨_, rfl⟩
    rw [hbl] at hlast
    have hLv : L = .pointer (some ⟨bl, 0, none⟩) := by rw [hL hne]; unfold ptrN; rw [hlast]
    subst hLv
    have hg2 := List.getElem?_eq_getElem (l := gl) (i := nb.length - 1) (by rw [H2.out.lg, ← H2.out.ln]; omega)
    have hs2 := List.getElem?_eq_getElem (l := ss) (i := nb.length - 1) (by rw [← H2.out.ln]; omega)
    obtain ⟨gz, hgz⟩ : ∃ gz, gl[nb.length - 1]'(by rw [H2.out.lg, ← H2.out.ln]; omega) = gz := ⟨_, rfl⟩
    obtain ⟨sz, hsz2⟩ : ∃ sz, ss[nb.length - 1]'(by rw [← H2.out.ln]; omega) = sz := ⟨_, rfl⟩
    rw [hgz] at hg2
    rw [hsz2] at hs2
    have hnd := H2.out.node _ _ _ _ hlast hg2 hs2
    rw [ptrN_end (by omega)] at hnd
    have v3 : w2.cell? ⟨bl, 3, none⟩ = some (.pointer none) := blk_cell hnd 3
    have g3 : w2.frozen? ⟨bl, 3, none⟩ = false := blk_frozen hnd 3
    have hQb : Q ≠ bl := blk_ne H2.out.blk hnd (by decide)
    have t1 : (w2.setCell ⟨bl, 3, none⟩ (.pointer (some ⟨w1.heap.size, 0, none⟩))).heap[Q]? = _ := (blk_other hQb).trans H2.out.blk
    have q1' : (w2.setCell ⟨bl, 3, none⟩ (.pointer (some ⟨w1.heap.size, 0, none⟩))).cell? ⟨Q, 1, none⟩ = _ := blk_cell t1 1
    have f1' : (w2.setCell ⟨bl, 3, none⟩ (.pointer (some ⟨w1.heap.size, 0, none⟩))).frozen? ⟨Q, 1, none⟩ = false := blk_frozen t1 1
    have t2 := blk_set t1 1 (.pointer (some ⟨w1.heap.size, 0, none⟩))
    rw [hp0] at q0
    have HLA := Lib.hid hlast
    have HND := Lib.hid hnd
    have hblow := H2.out.nlow _ _ hlast
    have hbw : bl ≠ w1.heap.size := fun e => hbn (by rw [← e, ← hbl]; exact List.getElem_mem _)
    clear hL hlast hg2 hs2 hgz hsz2 hnd hnb hbl
    go_enter Try.func77, Try.ntmps77
    go_wp2_with fail
    go_end0
    have hc := ((Chg.refl base queP w2).set (o := 3) HND.out hblow (.inl rfl) (.pointer (some ⟨w1.heap.size, 0, none⟩))).set (o := 1) t1 H2.out.low (.inr rfl) (.pointer (some ⟨w1.heap.size, 0, none⟩))
    refine ⟨rfl, w1.heap.size, H2.out.push ?_ (fun j b' g' s' a1 a2 a3 => ?_) ?_ (by have := HB2.out.size; omega) (fun j g' s' a1 a2 => hrowk (H2.out.row j g' s' a1 a2) hc) (hrowk R2.out hc) HG.out hbn, C2.out.trans hc⟩
    · rw [t2]; rw [ptrN_snoc_lt hlp]; simp
    · have hjl : j < nb.length := (List.getElem?_eq_some_iff.1 a1).1
      have h0 := H2.out.node j b' g' s' a1 a2 a3
      have hbQ : b' ≠ Q := blk_ne h0 H2.out.blk (by decide)
      rw [blk_other hbQ]
      by_cases hj : j = nb.length - 1
      · subst hj
        have e1 : b' = bl := by have := a1.symm.trans HLA.out; injection this
        subst e1
        rw [blk_set h0, show nb.length - 1 + 1 = nb.length by omega, ptrN_snoc_at]
        simp [nodeC]
      · rw [blk_other (fun e => ?_), ptrN_snoc_lt (by omega)]
        · exact h0
        · subst e
          have h1 := (List.getElem?_inj hjl H2.out.nd).1 (a1.trans HLA.out.symm)
          exact hj h1
    · rw [blk_other (Ne.symm hQn), blk_other (Ne.symm hbw)]; exact HN2.out

set_option maxRecDepth 100000 in
set_option maxHeartbeats 2000000 in
/-- **take** from a queue that is empty. -/
theorem take_no (base n Q : Nat) (L : Value) (w : World) (h : QS w base n Q L [] [] []) :
    Calls Try.prog 47 #[.pointer (some ⟨Q, 0, none⟩)] w fun e w' => e = .returned (.tuple #[.agg #[.slice none 0 0, .int .i64 0, .int .i64 0], .bool false]) ∧ Below w.heap.size w w' := by
  obtain ⟨w1, hw1⟩ : ∃ w1, w.alloc (.cells #[.slice none 0 0, .int .i64 0, .int .i64 0] 35) = w1 := ⟨_, rfl⟩
  have b1 : Below w.heap.size w w1 := by rw [← hw1]; exact (Below.refl _ _).alloc (Nat.le_refl _) _
  have g0 : w1.heap[w.heap.size]? = some (Obj.cells #[.slice none 0 0, .int .i64 0, .int .i64 0] 35 (0, 0)) := by rw [← hw1]; exact blk_new _ _
  have s0 := blk_cell g0 0
  have s1 := blk_cell g0 1
  have s2 := blk_cell g0 2
  have q0 : w1.cell? ⟨Q, 0, none⟩ = some (.pointer none) := blk_cell (h.under b1).blk 0
  have f0 : w1.frozen? ⟨w.heap.size, 0, none⟩ = false := blk_frozen g0 0
  have g1 := blk_set g0 0 (.slice none 0 0)
  have v1 : (w1.setCell ⟨w.heap.size, 0, none⟩ (.slice none 0 0)).cell? ⟨w.heap.size, 1, none⟩ = _ := blk_cell g1 1
  have f1 : (w1.setCell ⟨w.heap.size, 0, none⟩ (.slice none 0 0)).frozen? ⟨w.heap.size, 1, none⟩ = false := blk_frozen g1 1
  have g2 := blk_set g1 1 (.int .i64 0)
  have v2 : ((w1.setCell ⟨w.heap.size, 0, none⟩ (.slice none 0 0)).setCell ⟨w.heap.size, 1, none⟩ (.int .i64 0)).cell? ⟨w.heap.size, 2, none⟩ = _ := blk_cell g2 2
  have f2 : ((w1.setCell ⟨w.heap.size, 0, none⟩ (.slice none 0 0)).setCell ⟨w.heap.size, 1, none⟩ (.int .i64 0)).frozen? ⟨w.heap.size, 2, none⟩ = false := blk_frozen g2 2
  have g3 := blk_set g2 2 (.int .i64 0)
  have r0 := blk_cell g3 0
  have r1 := blk_cell g3 1
  have r2 := blk_cell g3 2
  clear h
  go_enter Try.func47, Try.ntmps47
  go_wp2_with fail
  refine bodyPost_ret (v := .tuple #[.agg #[.slice none 0 0, .int .i64 0, .int .i64 0], .bool false]) (by simp [results, Try.results47, go_sem, r0, r1, r2]) rfl ?_
  exact ⟨rfl, ((b1.setCell (p := ⟨w.heap.size, 0, none⟩) (Nat.le_refl _) _).setCell (p := ⟨w.heap.size, 1, none⟩) (Nat.le_refl _) _).setCell (p := ⟨w.heap.size, 2, none⟩) (Nat.le_refl _) _⟩

/-- The first step's block falls out. -/
theorem QS.pop {w w' : World} {base n Q b0 : Nat} {L : Value} {nb : List Nat} {g0 : Nat × Nat} {gl : List (Nat × Nat)} {s0 : TfStp} {ss : List TfStp} (h : QS w base n Q L (b0 :: nb) (g0 :: gl) (s0 :: ss))
    (hq : w'.heap[Q]? = some (Obj.cells #[ptrN nb 0, L] 111 (0, 0))) (hc : Chg base (fun e => e = 111) w w') : QS w' base n Q L nb gl ss :=
  ⟨hq, h.low, by have := h.ln; simpa using this, by have := h.lg; simpa using this, fun j b g s a1 a2 a3 => blk_chg (h.node (j + 1) b g s (by simpa using a1) (by simpa using a2) (by simpa using a3)) hc (by decide), fun j b a => h.nlow (j + 1) b (by simpa using a),
    fun j g s a2 a3 => owns_chg (h.row (j + 1) g s (by simpa using a2) (by simpa using a3)) hc (by decide), (List.nodup_cons.1 (by simpa using h.apart)).2, (List.nodup_cons.1 h.nd).2⟩

set_option maxRecDepth 100000 in
set_option maxHeartbeats 2000000 in
/-- **take**. -/
theorem take_yes (base n Q : Nat) (L : Value) (b0 : Nat) (nb : List Nat) (g c : Nat) (gl : List (Nat × Nat)) (cs : List Fr) (who : Int) (kind : Nat) (ss : List TfStp) (w : World) (h : QS w base n Q L (b0 :: nb) ((g, c) :: gl) ((cs, who, kind) :: ss)) (hbs : base ≤ w.heap.size) :
    Calls Try.prog 47 #[.pointer (some ⟨Q, 0, none⟩)] w fun e w' => e = .returned (.tuple #[.agg #[.slice (some ⟨g, 0, none⟩) n c, .int .i64 who, .int .i64 (kind : Int)], .bool true]) ∧ QS w' base n Q L nb gl ss ∧ Chg base queP w w' := by
  obtain ⟨w1, hw1⟩ : ∃ w1, w.alloc (.cells #[.slice none 0 0, .int .i64 0, .int .i64 0] 35) = w1 := ⟨_, rfl⟩
  obtain ⟨w2, hw2⟩ : ∃ w2, w1.alloc (.cells #[.slice (some ⟨g, 0, none⟩) n c, .int .i64 who, .int .i64 (kind : Int)] 35) = w2 := ⟨_, rfl⟩
  have b1 : Below w.heap.size w w1 := by rw [← hw1]; exact (Below.refl _ _).alloc (Nat.le_refl _) _
  have b12 : Below w1.heap.size w1 w2 := by rw [← hw2]; exact (Below.refl _ _).alloc (Nat.le_refl _) _
  have g1 : w1.heap[w.heap.size]? = some (Obj.cells #[.slice none 0 0, .int .i64 0, .int .i64 0] 35 (0, 0)) := by rw [← hw1]; exact blk_new _ _
  have g2 := blk_under g1 b12
  have k2 : w2.heap[w1.heap.size]? = some (Obj.cells #[.slice (some ⟨g, 0, none⟩) n c, .int .i64 who, .int .i64 (kind : Int)] 35 (0, 0)) := by rw [← hw2]; exact blk_new _ _
  have h1 := h.under b1
  have h2 := h1.under b12
  have nd1 := h1.node 0 b0 (g, c) (cs, who, kind) rfl rfl rfl
  have nd2 := h2.node 0 b0 (g, c) (cs, who, kind) rfl rfl rfl
  have hp : ptrN (b0 :: nb) 0 = .pointer (some ⟨b0, 0, none⟩) := rfl
  have hp1 : ptrN (b0 :: nb) (0 + 1) = ptrN nb 0 := rfl
  have q0 : w1.cell? ⟨Q, 0, none⟩ = some (.pointer (some ⟨b0, 0, none⟩)) := blk_cell h1.blk 0
  have n0 : w1.cell? ⟨b0, 0, none⟩ = some (.slice (some ⟨g, 0, none⟩) n c) := blk_cell nd1 0
  have n1 : w1.cell? ⟨b0, 1, none⟩ = some (.int .i64 who) := blk_cell nd1 1
  have n2 : w1.cell? ⟨b0, 2, none⟩ = some (.int .i64 (kind : Int)) := blk_cell nd1 2
  have q2 : w2.cell? ⟨Q, 0, none⟩ = some (.pointer (some ⟨b0, 0, none⟩)) := blk_cell h2.blk 0
  have e2 : w2.frozen? ⟨Q, 0, none⟩ = false := blk_frozen h2.blk 0
  obtain ⟨pa, hpa⟩ : ∃ pa, ptrN nb 0 = .pointer pa := by unfold ptrN; split <;> exact ⟨_, rfl⟩
  have n3 : w2.cell? ⟨b0, 3, none⟩ = some (.pointer pa) := by rw [← hpa]; exact blk_cell nd2 3
  have hQ1 : w1.heap.size ≠ Q := fun e => by
    have := blk_lt h1.blk
    omega
  have hQ0 : w.heap.size ≠ Q := fun e => by
    have := blk_lt h.blk
    omega
  obtain ⟨w3, hw3⟩ : ∃ w3, w2.setCell ⟨Q, 0, none⟩ (.pointer pa) = w3 := ⟨_, rfl⟩
  have k3 : w3.heap[w1.heap.size]? = some (Obj.cells #[.slice (some ⟨g, 0, none⟩) n c, .int .i64 who, .int .i64 (kind : Int)] 35 (0, 0)) := by rw [← hw3]; exact (blk_other hQ1).trans k2
  have g3 : w3.heap[w.heap.size]? = some (Obj.cells #[.slice none 0 0, .int .i64 0, .int .i64 0] 35 (0, 0)) := by rw [← hw3]; exact (blk_other hQ0).trans g2
  have q3 := blk_set h2.blk 0 (.pointer pa)
  rw [hw3] at q3
  have c3 : Chg base (fun e => e = 111) w2 w3 := by rw [← hw3]; exact (Chg.refl base (fun e => e = 111) w2).set (o := 0) h2.blk h2.low rfl _
  have H3 := Lib.hid (h2.pop (by rw [q3, hpa]; simp) c3)
  have C3 := Lib.hid (((Chg.of_below (base := base) (P := queP) (below_on b1 b12)).trans (c3.mono (fun e h => .inr h))))
  have l0 : w3.cell? ⟨w1.heap.size, 0, none⟩ = some (.slice (some ⟨g, 0, none⟩) n c) := blk_cell k3 0
  have l1 : w3.cell? ⟨w1.heap.size, 1, none⟩ = some (.int .i64 who) := blk_cell k3 1
  have l2 : w3.cell? ⟨w1.heap.size, 2, none⟩ = some (.int .i64 (kind : Int)) := blk_cell k3 2
  have v0 : w3.cell? ⟨w.heap.size, 0, none⟩ = some (.slice none 0 0) := blk_cell g3 0
  have f0 : w3.frozen? ⟨w.heap.size, 0, none⟩ = false := blk_frozen g3 0
  have g4 := blk_set g3 0 (.slice (some ⟨g, 0, none⟩) n c)
  have v1 : (w3.setCell ⟨w.heap.size, 0, none⟩ (.slice (some ⟨g, 0, none⟩) n c)).cell? ⟨w.heap.size, 1, none⟩ = _ := blk_cell g4 1
  have f1 : (w3.setCell ⟨w.heap.size, 0, none⟩ (.slice (some ⟨g, 0, none⟩) n c)).frozen? ⟨w.heap.size, 1, none⟩ = false := blk_frozen g4 1
  have g5 := blk_set g4 1 (.int .i64 who)
  have v2 : ((w3.setCell ⟨w.heap.size, 0, none⟩ (.slice (some ⟨g, 0, none⟩) n c)).setCell ⟨w.heap.size, 1, none⟩ (.int .i64 who)).cell? ⟨w.heap.size, 2, none⟩ = _ := blk_cell g5 2
  have f2 : ((w3.setCell ⟨w.heap.size, 0, none⟩ (.slice (some ⟨g, 0, none⟩) n c)).setCell ⟨w.heap.size, 1, none⟩ (.int .i64 who)).frozen? ⟨w.heap.size, 2, none⟩ = false := blk_frozen g5 2
  have g6 := blk_set g5 2 (.int .i64 (kind : Int))
  have r0 := blk_cell g6 0
  have r1 := blk_cell g6 1
  have r2 := blk_cell g6 2
  clear h h1 h2 nd1 nd2 c3 b1 b12 q3 hp hp1
  go_enter Try.func47, Try.ntmps47
  go_wp2_with fail
  refine bodyPost_ret (v := .tuple #[.agg #[.slice (some ⟨g, 0, none⟩) n c, .int .i64 who, .int .i64 (kind : Int)], .bool true]) (by simp [results, Try.results47, go_sem, r0, r1, r2]) rfl ?_
  have hch := (((Chg.refl base (fun e => e = 35) w3).set (o := 0) g3 hbs rfl (.slice (some ⟨g, 0, none⟩) n c)).set (o := 1) g4 hbs rfl (.int .i64 who)).set (o := 2) g5 hbs rfl (.int .i64 (kind : Int))
  exact ⟨rfl, H3.out.chg hch (by decide) (by decide) (by decide), ((C3.out.new (Nat.le_refl _) 0 _).new (Nat.le_refl _) 1 _).new (Nat.le_refl _) 2 _⟩

end Go.Proofs.Ytafnmongglhlaaa

namespace Go.Proofs.Ytafnmongglhlaaa
open Go.RowKit

attribute [local go_sem] Oper.semAt_some

/-- How many are still there, in memory. -/
def stayOf (w : World) (T : Nat) : Nat := match w.cell? ⟨T, 1, none⟩ with
  | some (.slice _ l _) => l
  | _ => 0
set_option maxHeartbeats 2000000 in
theorem queue_no (a : Option Addr) (len cap : Nat) (ps : List Pl) (al : Option Addr) (n cl : Nat) (lots : List Int) (s : Int) (w : World) (h : IsPiles w a len cap ps) (hs : Small ps) (hl : IsInts w al n cl lots) (hv : transB ps lots s = false) :
    Calls Try.prog 46 #[.slice a len cap, .slice al n cl, .int .i64 s] w fun e w' => e = .returned (.tuple #[.pointer none, .bool false]) ∧ Below w.heap.size w w' := by
  have HI := Lib.hid h
  have HS := Lib.hid hs
  have HL := Lib.hid hl
  have HV := Lib.hid hv
  clear h hs hl hv
  go_enter Try.func46, Try.ntmps46
  go_wp2_with fail
  refine (newT_no _ _ _ ps _ _ _ lots s _ HI.out HS.out HL.out HV.out).mono ?_
  rintro e w1 ⟨rfl, hb⟩
  go_wp2
  go_ret2
  exact ⟨rfl, hb⟩

set_option maxRecDepth 100000 in
set_option maxHeartbeats 4000000 in
/-- **queueSteps** at valid arguments. -/
theorem queue_yes (a : Option Addr) (len cap : Nat) (ps : List Pl) (al : Option Addr) (n cl : Nat) (lots : List Int) (s : Nat) (all : List TfStp) (w : World) (h : IsPiles w a len cap ps) (hs : Small ps) (hl : IsInts w al n cl lots) (hv : transB ps lots (s : Int) = true) (hr : tfAll ps lots (s : Int) = all) :
    Calls Try.prog 46 #[.slice a len cap, .slice al n cl, .int .i64 (s : Int)] w fun e w' => ∃ Q L nb gl, e = .returned (.tuple #[.pointer (some ⟨Q, 0, none⟩), .bool true]) ∧ QS w' w.heap.size n Q L nb gl all ∧ Below w.heap.size w w' := by
  obtain ⟨G, hG⟩ : ∃ G, w.heap.size = G := ⟨_, rfl⟩
  obtain ⟨h1, h2, h3, h4, h5⟩ := (transB_iff ps lots (s : Int)).1 hv
  have hn := hl.1
  rw [tfAll_yes hv, Int.toNat_natCast, hn] at hr
  have HA := Lib.hid (trans_arg hv)
  rw [hn] at h2 h4
  obtain ⟨q, hq⟩ : ∃ q, quoR (sumL ps) (s : Int) = q := ⟨_, rfl⟩
  have HSZ := Lib.hid (tf_start HA.out (s := s) (by omega) (by omega))
  rw [hn] at HSZ
  rw [hq] at hr HA
  have HI := Lib.hid h
  have HS := Lib.hid hs
  have HL := Lib.hid hl
  have HN := Lib.hid hn
  have HV := Lib.hid hv
  have HF := Lib.hid h2
  have HR := Lib.hid hr
  have HQ := Lib.hid hq
  have HLL : Hid ((thereL lots (tfG (tfStart ps n s).gs)).length ≤ n) := by
    have h0 : (thereL lots (tfG (tfStart ps n s).gs)).length ≤ lots.length := List.length_filter_le _ _
    unfold Hid; omega
  clear h hs hl hv h1 h2 hr hq
  go_enter Try.func46, Try.ntmps46
  go_wp2_with fail
  refine (newT_yes _ _ _ ps _ n _ lots s _ HI.out HS.out HL.out HV.out).mono ?_
  rintro e w1 ⟨T, R, rfl, hT, hb⟩
  rw [HQ.out, hG] at hT
  rw [hG] at hb
  obtain ⟨w2, hw2⟩ : ∃ w2, w1.alloc (.cells #[.pointer none, .pointer none] 111) = w2 := ⟨_, rfl⟩
  have b12 : Below w1.heap.size w1 w2 := by rw [← hw2]; exact (Below.refl _ _).alloc (Nat.le_refl _) _
  have hg1 : G ≤ w1.heap.size := by have := hb.size; omega
  have HT2 := Lib.hid (hT.under b12)
  have HB2 := Lib.hid (hb.trans (b12.mono hg1))
  have hqb : w2.heap[w1.heap.size]? = some (Obj.cells #[.pointer none, .pointer none] 111 (0, 0)) := by rw [← hw2]; exact blk_new _ _
  have HQ2 := Lib.hid (QS.start (n := n) hqb hg1)
  obtain ⟨Q, hQ⟩ : ∃ Q, w1.heap.size = Q := ⟨_, rfl⟩
  rw [hQ] at HQ2
  clear hT hb b12 hqb
  go_wp2_with fail
  clear hw2 hg1 hQ
  clear w1
  rename World => w2
  go_loopw [] (fun wr => ∃ (S : TfS) (f : Nat) (ss rest : List TfStp) (nb : List Nat) (gl : List (Nat × Nat)) (L : Value), Hid (tfRun ps lots q f S = rest ∧ ss ++ rest = all ∧ TfGood ps lots S ∧ (thereL lots (tfG S.gs)).length ≤ f) ∧ Hid (TS wr G T R ps lots q S ps.length) ∧ Hid (QS wr G n Q L nb gl ss) ∧ Hid (nb ≠ [] → L = ptrN nb (nb.length - 1)) ∧ Hid (Below G w wr)) (fun wr => stayOf wr T)
  case atStart => exact ⟨_, n, [], all, [], [], _, ⟨HR.out, rfl, HSZ.out, HLL.out⟩, HT2, HQ2, fun e => absurd rfl e, HB2⟩
  case round =>
    clear HT2 HQ2 HB2 HSZ HLL HR
    obtain ⟨S, f, ss, rest, nb, gl, L, hI, hT, hQ, hL, hB⟩ := hrel
    have k3 : wr.cell? ⟨T, 3, none⟩ = some (.int .i64 (S.s : Int)) := blk_cell hT.out.blk 3
    have hGs : G ≤ wr.heap.size := by have := hB.out.size; rw [hG] at this; exact this
    by_cases hz : S.s = 0
    · have hd : decide (0 < S.s) = false := decide_eq_false (by omega)
      have HE : Hid (ss = all) := by
        have h1 := hI.out.1
        rw [tfRun_zero _ _ _ _ hz] at h1
        have h2 := hI.out.2.1
        rw [← h1, List.append_nil] at h2
        exact h2
      clear hI hz
      go_wp2
      go_ret2
      refine ⟨Q, L, nb, gl, rfl, ?_, ?_⟩
      · rw [hG, ← HE.out]; exact hQ.out
      · rw [hG]; exact hB.out
    · have hd : decide (0 < S.s) = true := decide_eq_true (by omega)
      have hs1 : 1 ≤ S.s := by omega
      clear hz
      obtain ⟨who, hwho⟩ : ∃ who, S.who ps lots q = who := ⟨_, rfl⟩
      obtain ⟨kind, hkind⟩ : ∃ kind, S.kind ps lots q = kind := ⟨_, rfl⟩
      have HNX := Lib.hid (hI.out.2.2.1.next HA.out hs1)
      obtain ⟨f', rfl⟩ : ∃ f', f = f' + 1 := ⟨f - 1, by have := hI.out.2.2.1.fit; have := hI.out.2.2.2; omega⟩
      obtain ⟨hI1, hI2, hI3, hI4⟩ := hI.out
      rw [tfRun_step _ _ _ _ (by omega)] at hI1
      obtain ⟨r2, hr2⟩ : ∃ r2, tfRun ps lots q f' (tfNext ps lots q S) = r2 := ⟨_, rfl⟩
      rw [hr2] at hI1
      have HI5 : Hid ((ss ++ [(S.cs ps, who, kind)]) ++ r2 = all) := by
        unfold Hid
        rw [← hI2, ← hI1, ← hwho, ← hkind]
        simp [tfStep]
      have HG := Lib.hid hI3
      have HI4 : Hid ((thereL lots (tfG (tfNext ps lots q S).gs)).length ≤ f') := by have := HNX.out.2.2; unfold Hid; omega
      have HW := Lib.hid hwho
      have HK := Lib.hid hkind
      have HR2 := Lib.hid hr2
      clear hI hI1 hI2 hI3 hI4 hwho hkind hr2
      go_wp2_with fail
      refine (step_as G T R ps lots q S n who kind _ hT.out hGs HA.out HG.out hs1 HN.out HF.out HW.out HK.out).mono ?_
      rintro e w1 ⟨g, c, rfl, hgw, hT1, ho1, hc1⟩
      have hQ1 : QS w1 G n Q L nb gl ss := hQ.out.chg hc1 (by unfold stepP; decide) (by unfold stepP; decide) (by unfold stepP; decide)
      have hgn : g ∉ gl.map fun g => g.1 := fun hm => by
        obtain ⟨g', hg', rfl⟩ := List.mem_map.1 hm
        obtain ⟨j, hj, he⟩ := List.getElem_of_mem hg'
        have := ((hQ.out.row j g' _ (by rw [List.getElem?_eq_getElem hj, he]) (List.getElem?_eq_getElem (by rw [← hQ.out.lg]; exact hj))).lt g'.1 rfl).2
        omega
      have ho2 := World.ownsRow.mono ho1 hGs
      have hs1' : G ≤ w1.heap.size := by have := hc1.size; omega
      have HT1 := Lib.hid hT1
      have HQ1 := Lib.hid hQ1
      have HO1 := Lib.hid ho2
      have HC1 := Lib.hid hc1
      have HSO : Hid (stayOf wr T = (thereL lots (tfG S.gs)).length) := by unfold Hid stayOf; rw [blk_cell hT.out.blk 1]; rfl
      clear hT hQ hT1 hQ1 ho1 ho2 hc1 k3
      go_wp2_with fail
      refine (put_as G n Q L nb gl ss g c (S.cs ps) who kind _ HQ1.out hs1' hL.out HO1.out hgn).mono ?_
      rintro e w2 ⟨rfl, b, hQ2, hc2⟩
      have T2 := Lib.hid (HT1.out.chg hc2 (by unfold queP; decide) (by unfold queP; decide) (by unfold queP; decide) (by unfold queP; decide) (by unfold queP; decide))
      have Q2 := Lib.hid hQ2
      have B2 := Lib.hid ((hB.out.trans (HC1.out.below hGs)).trans (hc2.below hs1'))
      clear hQ2 hc2 HT1 HQ1 HO1 HC1
      go_wp2
      go_roundw
      case rel => exact ⟨_, f', _, r2, _, _, _, ⟨HR2.out, HI5.out, HNX.out.1, HI4.out⟩, T2, Q2, fun _ => by rw [show (nb ++ [b]).length - 1 = nb.length by simp, ptrN_snoc_at], B2⟩
      case measure =>
        rw [HSO.out]
        have h1 : stayOf w2 T = (thereL lots (tfG (tfNext ps lots q S).gs)).length := by unfold stayOf; rw [blk_cell T2.out.blk 1]; rfl
        rw [h1]
        have := HNX.out.2.2
        omega

end Go.Proofs.Ytafnmongglhlaaa
