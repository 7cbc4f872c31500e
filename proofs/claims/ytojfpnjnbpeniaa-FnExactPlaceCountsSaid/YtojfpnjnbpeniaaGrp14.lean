/-
  A table of a call's own: rows of n cells, each in a block of its own. Of no function of the seat.
  spec.BallotPrefers and impl.BallotPrefers answer alike: for every ballot of at most 1048600 ints, and every two numbers; neither writes into memory that was there.
  markIntS and heldIntS: the first writes ascending numbers into a slice of the caller's own, the second finds them again.
  markIntS writes into the one block of its slice.
  spec.MarksOf and impl.MarksOf answer alike, for every ballot of at most 1048600 ints and every number; both write into no memory that was there, and what they return is memory of their own.
  The statements' own small functions at slices of slices of ints: szIntSS, toIntSS, eqIntSS, markIntSS. No condition but what each theorem says.
  spec.l13Range and spec.l13Counts: the candidates, and the table of preferences, in memory of the call's own.
  spec.l13Counts: the table of preferences of piles that fit, in memory of the call's own.
  spec.l13Wins, spec.PairWinner and spec.PairCounts: for every list of piles and every number of candidates.
-/
import Derived.Test.YtojfpnjnbpeniaaGrp8
import Derived.Test.YtojfpnjnbpeniaaGrp13
import Derived.Deep.Onto
import Derived.Test.YtojfpnjnbpeniaaGrp6
import Derived.Test.YtojfpnjnbpeniaaGrp4
import Derived.Test.YtojfpnjnbpeniaaGrp12
import Derived.Test.YtojfpnjnbpeniaaGrp7
import Derived.Test.YtojfpnjnbpeniaaGrp1
import Derived.Test.YtojfpnjnbpeniaaGrp10
import Derived.Test.YtojfpnjnbpeniaaGrp2
import Derived.StillTailTactics
import Derived.Deep.QuietTactic
import Derived.BigQuiet
namespace Go.Proofs.Ytojfpnjnbpeniaa
open Go.RowKit

/-- The first k of len rows (of type R) are made: the j-th is block G j (capacity C j), its n cells (of type E) are F j. -/
structure Tb (E R : TypeId) (w : World) (base : Nat) (a : Option Addr) (len cap k n : Nat) (G C : Nat → Nat) (F : Nat → Nat → Value) : Prop where
  outer : ∃ V, w.ownsRow base R 1 (.slice a len cap) len V ∧ ∀ j, j < k → V[j]? = some (.slice (some ⟨G j, 0, none⟩) n (C j))
  inner : ∀ j, j < k → w.ownsRow base E 1 (.slice (some ⟨G j, 0, none⟩) n (C j)) n ((List.range n).map (F j))
  order : ∀ i j, i < j → j < k → G i < G j

theorem range_cell {n : Nat} (f : Nat → Value) {j : Nat} (h : j < n) : ((List.range n).map f)[j]? = some (f j) := by simp [h]
theorem owns_type {w : World} {base base' n n' c c' g : Nat} {E R : TypeId} {xs ys : List Value} (h : w.ownsRow base E 1 (.slice (some ⟨g, 0, none⟩) n c) n xs) (h' : w.ownsRow base' R 1 (.slice (some ⟨g, 0, none⟩) n' c') n' ys) : E = R := by
  rcases h.2 with ⟨e, _⟩ | ⟨g1, c1, cur1, e1, _, hg1, _⟩
  · simp at e
  · rcases h'.2 with ⟨e, _⟩ | ⟨g2, c2, cur2, e2, _, hg2, _⟩
    · simp at e
    · injection e1 with e1 _ _
      injection e2 with e2 _ _
      injection e1 with e1
      injection e1 with e1 _ _
      injection e2 with e2
      injection e2 with e2 _ _
      subst e1
      subst e2
      rw [hg1] at hg2
      injection hg2 with hg2
      injection hg2 with _ hg2 _

namespace Tb
variable {E R : TypeId} {w w' : World} {base len cap k n : Nat} {a : Option Addr} {G C : Nat → Nat} {F F' : Nat → Nat → Value}

theorem under (h : Tb E R w base a len cap k n G C F) (hb : Below w.heap.size w w') : Tb E R w' base a len cap k n G C F :=
  ⟨by obtain ⟨V, h1, h2⟩ := h.outer; exact ⟨V, owns_under h1 hb, h2⟩, fun j hj => owns_under (h.inner j hj) hb, h.order⟩
theorem lt (h : Tb E R w base a len cap k n G C F) {j : Nat} (hj : j < k) : base ≤ G j ∧ G j < w.heap.size := (h.inner j hj).lt (G j) rfl
theorem congr (h : Tb E R w base a len cap k n G C F) (he : ∀ i j, i < k → j < n → F i j = F' i j) : Tb E R w base a len cap k n G C F' :=
  ⟨h.outer, fun i hi => by
    have e : (List.range n).map (F' i) = (List.range n).map (F i) := List.map_congr_left (fun j hj => (he i j hi (List.mem_range.1 hj)).symm)
    rw [e]; exact h.inner i hi, h.order⟩
theorem mono {base' : Nat} (h : Tb E R w base a len cap k n G C F) (hb : base' ≤ base) : Tb E R w base' a len cap k n G C F :=
  ⟨by obtain ⟨V, h1, h2⟩ := h.outer; exact ⟨V, World.ownsRow.mono h1 hb, h2⟩, fun j hj => World.ownsRow.mono (h.inner j hj) hb, h.order⟩
theorem head (h : Tb E R w base a len cap k n G C F) (hl : 0 < len) : ∃ g, a = some ⟨g, 0, none⟩ ∧ base ≤ g ∧ g < w.heap.size ∧ len ≤ cap := by
  obtain ⟨V, h1, h2⟩ := h.outer
  rcases h1.2 with ⟨_, e⟩ | ⟨g, c, cur, e1, hb, hg, hc, _⟩
  · omega
  · injection e1 with e1 _ e3
    subst e3
    exact ⟨g, e1, hb, (Array.getElem?_eq_some_iff.1 hg).1, hc⟩
theorem row_cell {g : Nat} (h : Tb E R w base (some ⟨g, 0, none⟩) len cap k n G C F) {j : Nat} (hj : j < k) (hk : k ≤ len) : w.cell? ⟨g, j, none⟩ = some (.slice (some ⟨G j, 0, none⟩) n (C j)) := by
  obtain ⟨V, h1, h2⟩ := h.outer
  rw [h1.cellAt j (by omega)]; exact h2 j hj
theorem cell (h : Tb E R w base a len cap k n G C F) {x y : Nat} (hx : x < k) (hy : y < n) : w.cell? ⟨G x, y, none⟩ = some (F x y) := by
  rw [(h.inner x hx).cellAt y (by omega)]; exact range_cell _ hy
theorem frozen (h : Tb E R w base a len cap k n G C F) {x : Nat} (hx : x < k) (y : Nat) : w.frozen? ⟨G x, y, none⟩ = false := (h.inner x hx).frozenAt y
theorem ne (h : Tb E R w base a len cap k n G C F) {i j : Nat} (hi : i < k) (hj : j < k) (hne : i ≠ j) : G i ≠ G j := by
  rcases Nat.lt_or_gt_of_ne hne with g | g
  · have := h.order i j g hj; omega
  · have := h.order j i g hi; omega
theorem out_ne {g : Nat} (hER : E ≠ R) (h : Tb E R w base (some ⟨g, 0, none⟩) len cap k n G C F) {j : Nat} (hj : j < k) : G j ≠ g := by
  intro e
  obtain ⟨V, h1, h2⟩ := h.outer
  have h3 := h.inner j hj
  rw [e] at h3
  exact hER (owns_type h3 h1)

/-- A cell of a row is written. -/
theorem set (hER : E ≠ R) (h : Tb E R w base a len cap k n G C F) {x y : Nat} (hx : x < k) (hy : y < n) (v : Value) :
    Tb E R (w.setCell ⟨G x, y, none⟩ v) base a len cap k n G C (fun i j => if i = x ∧ j = y then v else F i j) ∧ w.grownBy (w.setCell ⟨G x, y, none⟩ v) (some (G x)) := by
  have hs := (h.inner x hx).stored y v
  refine ⟨⟨?_, fun j hj => ?_, h.order⟩, hs.2⟩
  · obtain ⟨V, h1, h2⟩ := h.outer
    refine ⟨V, h1.kept hs.2 ?_, h2⟩
    cases hb : (Value.slice a len cap).ownBlock with
    | none => exact .inl rfl
    | some b =>
      right
      intro e
      injection e with e
      cases a with
      | none => simp [Value.ownBlock] at hb
      | some ad =>
        have h0 := h1
        rcases h0.2 with ⟨e0, _⟩ | ⟨g, c, cur, e1, _, hg, _⟩
        · simp at e0
        · injection e1 with e1 _ _
          injection e1 with e1
          subst e1
          simp [Value.ownBlock] at hb
          exact out_ne hER h hx (by omega)
  · by_cases e : j = x
    · subst e
      have e2 : (List.range n).map (fun y' => if j = j ∧ y' = y then v else F j y') = ((List.range n).map (F j)).set y v := by
        apply List.ext_getElem
        · simp
        · intro i h1 h2
          simp only [List.getElem_map, List.getElem_range, List.getElem_set, true_and]
          by_cases e3 : i = y
          · subst e3; simp
          · rw [if_neg e3, if_neg (fun e4 => e3 e4.symm)]
      rw [e2]; exact hs.1
    · have e2 : (List.range n).map (fun y' => if j = x ∧ y' = y then v else F j y') = (List.range n).map (F j) := by
        refine List.map_congr_left (fun i _ => ?_)
        rw [if_neg (fun g => e g.1)]
      rw [e2]
      exact (h.inner j hj).kept hs.2 (.inr (by simp [Value.ownBlock]; exact h.ne hj hx e))

/-- A new row is stored. -/
theorem store {g g2 c2 : Nat} {f : Nat → Value} (hER : E ≠ R) (h : Tb E R w base (some ⟨g, 0, none⟩) len cap k n G C F) (hk : k < len) (hx : w.ownsRow base E 1 (.slice (some ⟨g2, 0, none⟩) n c2) n ((List.range n).map f)) (hlast : ∀ j, j < k → G j < g2) :
    Tb E R (w.setCell ⟨g, k, none⟩ (.slice (some ⟨g2, 0, none⟩) n c2)) base (some ⟨g, 0, none⟩) len cap (k + 1) n (fun j => if j = k then g2 else G j) (fun j => if j = k then c2 else C j) (fun j => if j = k then f else F j) := by
  obtain ⟨V, h1, h2⟩ := h.outer
  have hs := h1.stored k (.slice (some ⟨g2, 0, none⟩) n c2)
  have hV : V.length = len := by have := h1.1; omega
  have hg2 : g2 ≠ g := fun e => by subst e; exact hER (owns_type hx h1)
  refine ⟨⟨_, hs.1, fun j hj => ?_⟩, fun j hj => ?_, fun i j hij hj => ?_⟩
  · by_cases e : j = k
    · subst e; simp only [if_true]; rw [List.getElem?_set_self (by omega)]
    · simp only [if_neg e]; rw [List.getElem?_set_ne (by omega)]; exact h2 j (by omega)
  · by_cases e : j = k
    · subst e; simp only [if_true]; exact hx.kept hs.2 (.inr (by simp [Value.ownBlock]; exact hg2))
    · simp only [if_neg e]; exact (h.inner j (by omega)).kept hs.2 (.inr (by simp [Value.ownBlock]; exact out_ne hER h (by omega)))
  · by_cases e : j = k
    · subst e
      have e2 : ¬ i = j := by omega
      simp only [if_neg e2, if_true]
      exact hlast i hij
    · have e2 : ¬ i = k := by omega
      simp only [if_neg e2, if_neg e]
      exact h.order i j hij (by omega)

/-- A new row is appended. -/
theorem push {a' : Option Addr} {cap' g2 c2 : Nat} {f : Nat → Value} {V : List Value} (hER : E ≠ R) (h : Tb E R w base a k cap k n G C F) (h1 : w.ownsRow base R 1 (.slice a k cap) k V) (h2 : ∀ j, j < k → V[j]? = some (.slice (some ⟨G j, 0, none⟩) n (C j)))
    (hx : w.ownsRow base E 1 (.slice (some ⟨g2, 0, none⟩) n c2) n ((List.range n).map f)) (hlast : ∀ j, j < k → G j < g2)
    (ho : w'.ownsRow base R 1 (.slice a' (k + 1) cap') (k + 1) (V ++ [.slice (some ⟨g2, 0, none⟩) n c2])) (hg : w.grownBy w' (Value.slice a k cap).ownBlock) :
    Tb E R w' base a' (k + 1) cap' (k + 1) n (fun j => if j = k then g2 else G j) (fun j => if j = k then c2 else C j) (fun j => if j = k then f else F j) := by
  have hV : V.length = k := by have := h1.1; omega
  have hown : ∀ gj cj f', w.ownsRow base E 1 (.slice (some ⟨gj, 0, none⟩) n cj) n ((List.range n).map f') → w'.ownsRow base E 1 (.slice (some ⟨gj, 0, none⟩) n cj) n ((List.range n).map f') := by
    intro gj cj f' h3
    refine h3.kept hg ?_
    right
    intro e
    cases a with
    | none => simp [Value.ownBlock] at e
    | some ad =>
      rcases h1.2 with ⟨e0, _⟩ | ⟨g, c, cur, e1, _, hg', _⟩
      · simp at e0
      · injection e1 with e1 _ _
        injection e1 with e1
        subst e1
        simp [Value.ownBlock] at e
        subst e
        exact hER (owns_type h3 h1)
  refine ⟨⟨_, ho, fun j hj => ?_⟩, fun j hj => ?_, fun i j hij hj => ?_⟩
  · by_cases e : j = k
    · subst e; simp only [if_true]; rw [List.getElem?_append_right (by omega), hV, Nat.sub_self]; rfl
    · simp only [if_neg e]; rw [List.getElem?_append_left (by omega)]; exact h2 j (by omega)
  · by_cases e : j = k
    · subst e; simp only [if_true]; exact hown _ _ _ hx
    · simp only [if_neg e]; exact hown _ _ _ (h.inner j (by omega))
  · by_cases e : j = k
    · subst e
      have e2 : ¬ i = j := by omega
      simp only [if_neg e2, if_true]
      exact hlast i hij
    · have e2 : ¬ i = k := by omega
      simp only [if_neg e2, if_neg e]
      exact h.order i j hij (by omega)
/-- No row yet. -/
theorem start {V : List Value} (h : w.ownsRow base R 1 (.slice a len cap) len V) : Tb E R w base a len cap 0 n G C F :=
  ⟨⟨V, h, fun j hj => by omega⟩, fun j hj => by omega, fun i j _ hj => by omega⟩
end Tb

/-- The rows of a table. -/
def tabL {α : Type} (n : Nat) (f : Nat → Nat → α) : List (List α) := (List.range n).map fun x => (List.range n).map (f x)
theorem tabL_length {α : Type} (n : Nat) (f : Nat → Nat → α) : (tabL n f).length = n := by simp [tabL]
theorem tabL_row {α : Type} (n : Nat) (f : Nat → Nat → α) {x : Nat} (hx : x < n) : (tabL n f)[x]?.getD [] = (List.range n).map (f x) := by simp [tabL, hx]
theorem tabL_congr {α : Type} {n : Nat} {f f' : Nat → Nat → α} (h : ∀ x y, x < n → y < n → f x y = f' x y) : tabL n f = tabL n f' :=
  List.map_congr_left fun x hx => List.map_congr_left fun y hy => h x y (List.mem_range.1 hx) (List.mem_range.1 hy)

/-- What reads as a table of ints. -/
def IsTab (w : World) (a : Option Addr) (len cap n : Nat) (f : Nat → Nat → Int) : Prop := IsRows w a len cap (tabL n f)
theorem Tb.isRows {E R : TypeId} {w : World} {base cap n : Nat} {a : Option Addr} {G C : Nat → Nat} {F : Nat → Nat → Value} {f : Nat → Nat → Int} (h : Tb E R w base a n cap n n G C F) (hn : n ≤ 1048600) (hF : ∀ i j, i < n → j < n → F i j = .int .i64 (f i j)) : IsRows w a n cap (tabL n f) := by
  refine ⟨tabL_length n f, ?_, hn, fun hl => ?_⟩
  · rcases Nat.eq_zero_or_pos n with e | e
    · omega
    · obtain ⟨g, _, _, _, h4⟩ := h.head e; exact h4
  obtain ⟨g, rfl, hb, hg, hc⟩ := h.head hl
  refine ⟨g, 0, rfl, hg, fun j hj => ⟨some ⟨G j, 0, none⟩, n, C j, by rw [Nat.zero_add]; exact h.row_cell hj (Nat.le_refl _), ?_⟩⟩
  rw [tabL_row n f hj]
  have hin := h.inner j hj
  refine ⟨by simp, ?_, hn, fun _ => ⟨G j, 0, rfl, (h.lt hj).2, fun i hi => ?_⟩⟩
  · rcases hin.2 with ⟨e0, _⟩ | ⟨g', c', cur, e1, _, _, h3, _⟩
    · simp at e0
    · injection e1 with _ _ e3; omega
  · rw [Nat.zero_add, h.cell hj hi, hF j i hj hi]; simp [hi]

end Go.Proofs.Ytojfpnjnbpeniaa

namespace Go.Proofs.Ytojfpnjnbpeniaa
open Go.RowKit Go.Shelf

attribute [local go_sem] Oper.semAt_some

set_option maxRecDepth 100000 in
set_option maxHeartbeats 2000000 in
/-- **impl.BallotPrefers**, at two numbers and a valid ballot. -/
theorem implPrefers_yes (a : Option Addr) (len cap : Nat) (zs : List Int) (x y : Int) (w : World) (h : IsInts w a len cap zs) (hv : validB zs 5 = true) (hx : (x == y) = false) :
    CallsIn Fence.wide 8 Try.prog 141 #[.slice a len cap, .int .i64 x, .int .i64 y] w fun e w' => e = .returned (.bool (prefL zs x y)) ∧ Below w.heap.size w w' := by
  have hro : Fence.wide.round = none := rfl
  have H := Lib.hid h; clear h
  refine callsIn_of_wp_marks Try.func141 rfl trivial ?_ hro
  simp only [Try.ntmps141, List.size_toArray, List.length_cons, List.length_nil, Nat.reduceAdd, Nat.reduceSub, Array.replicate_succ, Array.replicate_zero, List.push_toArray, List.append_toArray, List.nil_append, List.cons_append]
  gi_wp2
  refine ⟨trivial, ?_⟩
  gi_at_call 88
  refine (implValid_wide _ _ _ _ zs _ _ (H.out.below ((((Below.refl _ w).alloc (Nat.le_refl _) _).alloc (by simp) _).alloc (by simp; omega) _))).mono ?_
  rintro e w1 ⟨rfl, hb1⟩
  have hB1 : Below w.heap.size w w1 := ((((Below.refl _ w).alloc (Nat.le_refl _) _).alloc (by simp) _).alloc (by simp; omega) _).trans (hb1.mono (by simp; omega))
  have hsz : w.heap.size + 1 + 1 + 1 ≤ w1.heap.size := by have := hb1.size; simpa using this
  gi_wp2
  refine ⟨trivial, ?_⟩
  gi_at_call 117
  refine (candidates_in Fence.wide _ (by omega) trivial trivial hro _ _ _ _).mono ?_
  rintro e w' ⟨rfl, rfl⟩
  gi_wp2
  have bX0 := ((Boxed.new w 3 (.int .i64 x)).alloc (.cells #[.int .i64 y] 3)).alloc (.cells #[.bool false] 4)
  have bY0 := (Boxed.new (w.alloc (.cells #[.int .i64 x] 3)) 3 (.int .i64 y)).alloc (.cells #[.bool false] 4)
  have bR0 := Boxed.new ((w.alloc (.cells #[.int .i64 x] 3)).alloc (.cells #[.int .i64 y] 3)) 4 (.bool false)
  simp only [World.size_alloc] at bX0 bY0 bR0
  have bX : Boxed w1 w.heap.size 3 (.int .i64 x) := (hb1.block _ (by simp; omega)).trans bX0
  have bY : Boxed w1 (w.heap.size + 1) 3 (.int .i64 y) := (hb1.block _ (by simp)).trans bY0
  have bR : Boxed w1 (w.heap.size + 1 + 1) 4 (.bool false) := (hb1.block _ (by simp)).trans bR0
  clear bX0 bY0 bR0
  have bV := Boxed.new w1 26 (.slice a len cap)
  have hB2 : Below w.heap.size w (w1.alloc (.cells #[.slice a len cap] 26)) := hB1.alloc (by omega) _
  refine wpIn_rangeFunc_ownG hro (by omega) (gf := 164) (lb := #[.pointer (some ⟨w1.heap.size, 0, none⟩)]) rfl trivial (enters_of Try.func164 (by kernel_rfl) rfl)
    (values_stops Fence.wide 7 trivial hro (by omega) w1.heap.size a len cap zs w _ (by simp) hB2 bV.cell H.out) belowK_t (belowK_b (by simp; omega)) (Below.refl _ _) (fun _ => rfl)
    (fun pre W => (W.cell? ⟨w.heap.size, 0, none⟩ = some (.int .i64 x) ∧ W.cell? ⟨w.heap.size + 1, 0, none⟩ = some (.int .i64 y) ∧ (W.cell? ⟨w.heap.size + 1 + 1, 0, none⟩ = some (.bool false) ∧ W.frozen? ⟨w.heap.size + 1 + 1, 0, none⟩ = false) ∧ ∀ z ∈ pre, z ≠ x ∧ z ≠ y) ∧ Below w.heap.size w W)
    (fun c pre W => (c = .ret ∧ ∃ r, (∀ rest, prefL (pre ++ rest) x y = r) ∧ W.cell? ⟨w.heap.size + 1 + 1, 0, none⟩ = some (.bool r)) ∧ Below w.heap.size w W)
    (OwnFrom.and (Own.from (fun s A B row hs hg hr => ⟨cell_kept hs.1 hg hr, cell_kept hs.2.1 hg hr, ⟨cell_kept hs.2.2.1.1 hg hr, (frozen_kept hs.2.2.1.1 hg hr).trans hs.2.2.1.2⟩, hs.2.2.2⟩) _) (ownFrom_below (Nat.le_refl _) (by simp; omega)))
    (fun c => OwnFrom.and (Own.from (fun s A B row hs hg hr => by obtain ⟨e1, r, e2, e3⟩ := hs; exact ⟨e1, r, e2, cell_kept e3 hg hr⟩) _) (ownFrom_below (Nat.le_refl _) (by simp; omega)))
    ⟨⟨(bX.alloc _).cell, (bY.alloc _).cell, ⟨(bR.alloc _).cell, (bR.alloc _).frozen⟩, by simp⟩, hB2⟩
    (fun z => { tmps := #[.slice a len cap, .int .i64 x, .int .i64 y, undef, .pointer (some ⟨w.heap.size, 0, none⟩), .pointer (some ⟨w.heap.size + 1, 0, none⟩), .pointer (some ⟨w.heap.size + 1 + 1, 0, none⟩), .int .i64 z,
      .int .i64 x, .int .i64 y, .bool false, .bool false, .slice a len cap, .bool true, .bool false, .bool false, .slice a len cap, .func (.func 164) #[] #[.pointer (some ⟨w1.heap.size, 0, none⟩)], .int .i64 z,
      undef, undef, undef, undef, undef, undef, undef], defers := [] }) ?assign ?body ?done ?stop
  case assign =>
    intro l z W K hK
    gi_wp2
    exact hK
  case body =>
    rintro l pre z W ⟨⟨hcx, hcy, ⟨hcr, hfr⟩, hfree⟩, hB⟩ hlt
    have HF := Lib.hid hfree; clear hfree
    cases hzx : (z == x)
    · have hnx : z ≠ x := by simpa using hzx
      have HNX := Lib.hid hnx; clear hnx
      cases hzy : (z == y)
      · have hny : z ≠ y := by simpa using hzy
        have HNY := Lib.hid hny; clear hny
        gi_wp2
        exact ⟨KeepsFrom.refl _ _, Below.refl _ _, ⟨hcx, hcy, ⟨hcr, hfr⟩, fun u hu => (List.mem_append.1 hu).elim (HF.out u) (fun e => by simp at e; subst e; exact ⟨HNX.out, HNY.out⟩)⟩, hB⟩
      · have HY := Lib.hid hzy
        gi_wp2
        refine ⟨(KeepsOthers.setCell _ _ _).from _, ⟨rfl, false, fun rest => ?_, World.cell?_setCell_same' _ _ _ (by rw [hcr]; rfl)⟩, hB.setCell (p := ⟨w.heap.size + 1 + 1, 0, none⟩) (by simp; omega) _⟩
        rw [List.append_assoc, prefL_app HF.out, List.singleton_append, prefL, if_neg HNX.out, if_pos (by simpa using HY.out)]
    · have HX := Lib.hid hzx
      gi_wp2
      refine ⟨(KeepsOthers.setCell _ _ _).from _, ⟨rfl, true, fun rest => ?_, World.cell?_setCell_same' _ _ _ (by rw [hcr]; rfl)⟩, hB.setCell (p := ⟨w.heap.size + 1 + 1, 0, none⟩) (by simp; omega) _⟩
      rw [List.append_assoc, prefL_app HF.out, List.singleton_append, prefL, if_pos (by simpa using HX.out)]
  case done =>
    rintro D ys W hD rfl ⟨⟨hcx, hcy, ⟨hcr, hfr⟩, hfree⟩, hB⟩ hK
    have HF := Lib.hid hfree; clear hfree
    gi_wp2
    have hK' := (KeepsOthers.setCell W ⟨w.heap.size + 1 + 1, 0, none⟩ (.bool false)).same D _ hK rfl
    refine ⟨by simp, .inl ⟨_, _, rfl, run_takeDeferred hK', ?_⟩⟩
    have hc5 := cell_kept (World.cell?_setCell_same' W ⟨w.heap.size + 1 + 1, 0, none⟩ (.bool false) (by rw [hcr]; rfl)) (grownBy_putObj' _ D (.deferred none)) (fun r e => by cases e; exact ⟨_, hK', rfl⟩)
    refine ⟨.bool false, ?_, ret_bool ?_, (hB.setCell (p := ⟨w.heap.size + 1 + 1, 0, none⟩) (by simp; omega) _).trans (belowK_b (w := w) (Nat.le_refl _) _ D _ _ (by simp at hD; omega) hK' rfl rfl)⟩
    · simp [results, Try.f141, go_sem, hc5]
    · have := prefL_app HF.out []
      rw [List.append_nil] at this
      rw [this]; rfl
  case stop =>
    rintro D c pre W hD ⟨t, ht⟩ ⟨⟨rfl, r, hr, hcr⟩, hB⟩ hK
    have HR := Lib.hid (ht ▸ hr t); clear hr ht
    gi_wp2
    refine ⟨by simp, .inl ⟨_, _, rfl, run_takeDeferred hK, ?_⟩⟩
    have hc5 := cell_kept hcr (grownBy_putObj' _ D (.deferred none)) (fun r e => by cases e; exact ⟨_, hK, rfl⟩)
    refine ⟨.bool r, ?_, ret_bool HR.out.symm, hB.trans (belowK_b (w := w) (Nat.le_refl _) W D _ _ (by simp at hD; omega) hK rfl rfl)⟩
    simp [results, Try.f141, go_sem, hc5]

set_option maxRecDepth 100000 in
set_option maxHeartbeats 1000000 in
/-- **impl.BallotPrefers** answers as the model does. -/
theorem implPrefers_any (a : Option Addr) (len cap : Nat) (zs : List Int) (x y : Int) (w : World) (h : IsInts w a len cap zs) :
    Calls Try.prog 141 #[.slice a len cap, .int .i64 x, .int .i64 y] w fun e w' => e = .returned (.bool (prefB zs x y)) ∧ Below w.heap.size w w' := by
  refine (callsIn_wide (n := 8)).1 ?_
  by_cases hxy : x = y
  · subst hxy
    have e : Hid (prefB zs x x = false) := by simp [Hid, prefB]
    have hx : (x == x) = true := by simp
    refine callsIn_of_wp Try.func141 rfl trivial ?_ rfl
    simp only [Try.ntmps141, List.size_toArray, List.length_cons, List.length_nil, Nat.reduceAdd, Nat.reduceSub, Array.replicate_succ, Array.replicate_zero, List.push_toArray, List.append_toArray, List.nil_append, List.cons_append]
    gi_wp2
    refine ⟨trivial, ?_⟩
    gi_wp2
    exact bodyPost_ret (v := .bool false) (by simp [results, Try.f141, go_sem]) rfl ⟨ret_bool e.out.symm, (((Below.refl _ w).alloc (Nat.le_refl _) _).alloc (by simp) _).alloc (by simp; omega) _⟩
  · have hx : (x == y) = false := by simpa using hxy
    cases hv : validB zs 5
    · have e : Hid (prefB zs x y = false) := by simp [Hid, prefB, hv]
      have H := Lib.hid h; clear h hxy
      refine callsIn_of_wp Try.func141 rfl trivial ?_ rfl
      simp only [Try.ntmps141, List.size_toArray, List.length_cons, List.length_nil, Nat.reduceAdd, Nat.reduceSub, Array.replicate_succ, Array.replicate_zero, List.push_toArray, List.append_toArray, List.nil_append, List.cons_append]
      gi_wp2
      refine ⟨trivial, ?_⟩
      gi_at_call 88
      refine (implValid_wide _ _ _ _ zs _ _ (H.out.below ((((Below.refl _ w).alloc (Nat.le_refl _) _).alloc (by simp) _).alloc (by simp; omega) _))).mono ?_
      rintro e1 w1 ⟨rfl, hb1⟩
      have hB1 : Below w.heap.size w w1 := ((((Below.refl _ w).alloc (Nat.le_refl _) _).alloc (by simp) _).alloc (by simp; omega) _).trans (hb1.mono (by simp; omega))
      have hsz : w.heap.size + 1 + 1 + 1 ≤ w1.heap.size := by have := hb1.size; simpa using this
      have bR0 := Boxed.new ((w.alloc (.cells #[.int .i64 x] 3)).alloc (.cells #[.int .i64 y] 3)) 4 (.bool false)
      simp only [World.size_alloc] at bR0
      have bR : Boxed w1 (w.heap.size + 1 + 1) 4 (.bool false) := (hb1.block _ (by simp)).trans bR0
      have hcr := bR.cell
      have hfr := bR.frozen
      clear bR0 bR
      gi_wp2
      have hc5 := World.cell?_setCell_same' w1 ⟨w.heap.size + 1 + 1, 0, none⟩ (.bool false) (by rw [hcr]; rfl)
      exact bodyPost_ret (v := .bool false) (by simp [results, Try.f141, go_sem, hc5]) rfl ⟨ret_bool e.out.symm, hB1.setCell (p := ⟨w.heap.size + 1 + 1, 0, none⟩) (by simp; omega) _⟩
    · rw [show prefB zs x y = prefL zs x y from by simp [prefB, hv, hxy]]
      exact implPrefers_yes a len cap zs x y w h hv hx

end Go.Proofs.Ytojfpnjnbpeniaa

namespace Go.Proofs.Ytojfpnjnbpeniaa
open Go.RowKit

/-- Ascending numbers from k on. -/
def marks (k : Int) (n : Nat) : List Int := (List.range n).map fun (j : Nat) => k + (j : Int)
theorem marks_length (k : Int) (n : Nat) : (marks k n).length = n := by simp [marks]
theorem marks_succ (k : Int) (n : Nat) : marks k (n + 1) = marks k n ++ [k + (n : Int)] := by simp [marks, List.range_succ]
theorem marks_at (k : Int) (n j : Nat) (h : j < n) : (marks k n)[j]?.getD 0 = k + (j : Int) := by simp [marks, h]

/-- The first j are marked. -/
def markTo (xs : List Value) (k : Int) (j : Nat) : List Value := (marks k j).map (Value.int .i64) ++ xs.drop j
theorem markTo_step (xs : List Value) (k : Int) (j : Nat) (h : j < xs.length) : (markTo xs k j).set j (.int .i64 (k + (j : Int))) = markTo xs k (j + 1) := by
  have hl : ((marks k j).map (Value.int .i64)).length = j := by simp [marks]
  unfold markTo
  rw [marks_succ, List.map_append, List.append_assoc, List.set_append_right _ _ (by omega), hl, Nat.sub_self, List.drop_eq_getElem_cons h, List.set_cons_zero]
  rfl

set_option maxHeartbeats 1000000 in
/-- **markIntS**. -/
theorem markInt_any (base : Nat) (a : Option Addr) (len cap : Nat) (xs : List Value) (k : Int) (w : World) (h : w.ownsRow base 3 1 (.slice a len cap) len xs) (hl : len ≤ 1048600) (hk0 : 0 ≤ k) (hk : k ≤ 1000000000000) :
    Calls Try.prog 46 #[.slice a len cap, .int .i64 k] w fun e w' => e = .returned (.int .i64 (k + (len : Int))) ∧ w'.ownsRow base 3 1 (.slice a len cap) len ((marks k len).map (Value.int .i64)) ∧ Below base w w' := by
  have hxl : xs.length = len := by have := h.1; omega
  have HX := Lib.hid hxl; clear hxl
  have HO : Hid (w.ownsRow base 3 1 (.slice a len cap) len (markTo xs k 0)) := by unfold Hid; simpa [markTo, marks] using h
  clear h
  go_enter Try.func46, Try.ntmps46
  go_wp2
  go_loopw [1, 5] (fun q i wr => ∃ j : Nat, j ≤ len ∧ i = .int .i64 j ∧ q = .int .i64 (k + (j : Int)) ∧ Hid (wr.ownsRow base 3 1 (.slice a len cap) len (markTo xs k j)) ∧ Below base w wr) (fun _ i _ => len - (intOf i).toNat)
  case atStart => exact ⟨0, Nat.zero_le _, rfl, by simp, HO, Below.refl _ _⟩
  case round =>
    obtain ⟨j, hj, rfl, rfl, ho, hB⟩ := hrel
    by_cases hlt : j < len
    · obtain ⟨g, hg, hgb⟩ : ∃ g, a = some ⟨g, 0, none⟩ ∧ base ≤ g := by
        rcases ho.out.2 with ⟨_, e0⟩ | ⟨g, c, _, e, hb, _⟩
        · omega
        · injection e with e1 _ _; exact ⟨g, e1, hb⟩
      subst hg
      have hfz := ho.out.frozenAt j
      have hcg := ho.out.cellAt j (by omega)
      have hlen : j < (markTo xs k j).length := by simp [markTo, marks, HX.out]; omega
      rw [List.getElem?_eq_getElem hlen] at hcg
      obtain ⟨v0, hv0⟩ : ∃ v0, (markTo xs k j)[j] = v0 := ⟨_, rfl⟩
      rw [hv0] at hcg
      clear hv0 hlen
      have HS := Lib.hid (ho.out.stored j (.int .i64 (k + (j : Int))))
      go_wp2
      go_roundw
      case rel => exact ⟨j + 1, by omega, by go_num, by push_cast; rw [Int.add_assoc], by unfold Hid; rw [← markTo_step xs k j (by rw [HX.out]; exact hlt)]; exact HS.out.1, hB.setCell (p := ⟨g, j, none⟩) hgb _⟩
      case measure => simp [intOf]; omega
    · obtain rfl : j = len := by omega
      go_wp2
      go_ret
      refine ⟨rfl, ?_, hB⟩
      have := ho.out
      rwa [markTo, List.drop_of_length_le (by rw [HX.out]; omega), List.append_nil] at this

set_option maxHeartbeats 1000000 in
/-- **heldIntS**. -/
theorem heldInt_any (a : Option Addr) (len cap : Nat) (k : Int) (w : World) (h : IsInts w a len cap (marks k len)) (hk0 : 0 ≤ k) (hk : k ≤ 1000000000000) :
    Calls Try.prog 47 #[.slice a len cap, .int .i64 k] w fun e w' => e = .returned (.int .i64 (k + (len : Int))) ∧ w = w' := by
  have hm := h.2.2.1
  have H4 := Lib.hid h.2.2.2; clear h
  go_enter Try.func47, Try.ntmps47
  go_wp2
  go_loop [1, 5] (fun q i => ∃ j : Nat, j ≤ len ∧ i = .int .i64 j ∧ q = .int .i64 (k + (j : Int))) (fun _ i => len - (intOf i).toNat)
  case atStart => exact ⟨0, Nat.zero_le _, rfl, by simp⟩
  case round =>
    obtain ⟨j, hj, rfl, rfl⟩ := hrel
    by_cases hlt : j < len
    · obtain ⟨b, o, rfl, hb, hc⟩ := H4.out (by omega)
      have hz := hc j hlt
      rw [marks_at k len j hlt] at hz
      clear hc
      have hne : (k + (j : Int) != k + (j : Int)) = false := by simp
      go_wp2
      go_round
      case rel => exact ⟨j + 1, by omega, by go_num, by push_cast; rw [Int.add_assoc]⟩
      case measure => simp [intOf]; omega
    · obtain rfl : j = len := by omega
      go_wp2
      go_ret
      exact ⟨rfl, rfl⟩

end Go.Proofs.Ytojfpnjnbpeniaa

namespace Go.Proofs.Ytojfpnjnbpeniaa
open Go.RowKit

theorem Step.of_setCell {w w' : World} {R j : Nat} {v : Value} (h : Step R w w') : Step R w (w'.setCell ⟨R, j, none⟩ v) :=
  ⟨h.os, h.tape, h.output, by have := h.size; simpa [World.setCell] using this, fun k hk hne => (Below.heap_setCell _ _ _ _ (fun e => hne (by rw [e]))).trans (h.block k hk hne)⟩

set_option maxHeartbeats 1000000 in
/-- **markIntS**, at a block of the caller's own: that block alone is written. -/
theorem markInt_step (base g len cap : Nat) (xs : List Value) (k : Int) (w : World) (h : w.ownsRow base 3 1 (.slice (some ⟨g, 0, none⟩) len cap) len xs) (hl : len ≤ 1048600) (hk0 : 0 ≤ k) (hk : k ≤ 4000000000000000000) :
    Calls Try.prog 46 #[.slice (some ⟨g, 0, none⟩) len cap, .int .i64 k] w fun e w' => e = .returned (.int .i64 (k + (len : Int))) ∧ w'.ownsRow base 3 1 (.slice (some ⟨g, 0, none⟩) len cap) len ((marks k len).map (Value.int .i64)) ∧ Step g w w' := by
  have hxl : xs.length = len := by have := h.1; omega
  have HX := Lib.hid hxl; clear hxl
  have HO : Hid (w.ownsRow base 3 1 (.slice (some ⟨g, 0, none⟩) len cap) len (markTo xs k 0)) := by unfold Hid; simpa [markTo, marks] using h
  clear h
  go_enter Try.func46, Try.ntmps46
  go_wp2
  go_loopw [1, 5] (fun q i wr => ∃ j : Nat, j ≤ len ∧ i = .int .i64 j ∧ q = .int .i64 (k + (j : Int)) ∧ Hid (wr.ownsRow base 3 1 (.slice (some ⟨g, 0, none⟩) len cap) len (markTo xs k j)) ∧ Step g w wr) (fun _ i _ => len - (intOf i).toNat)
  case atStart => exact ⟨0, Nat.zero_le _, rfl, by simp, HO, Step.refl _ _⟩
  case round =>
    obtain ⟨j, hj, rfl, rfl, ho, hB⟩ := hrel
    by_cases hlt : j < len
    · have hfz := ho.out.frozenAt j
      have hcg := ho.out.cellAt j (by omega)
      have hlen : j < (markTo xs k j).length := by simp [markTo, marks, HX.out]; omega
      rw [List.getElem?_eq_getElem hlen] at hcg
      obtain ⟨v0, hv0⟩ : ∃ v0, (markTo xs k j)[j] = v0 := ⟨_, rfl⟩
      rw [hv0] at hcg
      clear hv0 hlen
      have HS := Lib.hid (ho.out.stored j (.int .i64 (k + (j : Int))))
      go_wp2
      go_roundw
      case rel => exact ⟨j + 1, by omega, by go_num, by push_cast; rw [Int.add_assoc], by unfold Hid; rw [← markTo_step xs k j (by rw [HX.out]; exact hlt)]; exact HS.out.1, hB.of_setCell⟩
      case measure => simp [intOf]; omega
    · obtain rfl : j = len := by omega
      go_wp2
      go_ret
      refine ⟨rfl, ?_, hB⟩
      have := ho.out
      rwa [markTo, List.drop_of_length_le (by rw [HX.out]; omega), List.append_nil] at this

end Go.Proofs.Ytojfpnjnbpeniaa

namespace Go.Proofs.Ytojfpnjnbpeniaa
open Go.RowKit Go.Shelf

attribute [local go_sem] Oper.semAt_some

/-- 'make([]T, n)' in a fenced walk. -/
theorem make_full_in {F : Fence} {n : Nat} {P : Program} (w : World) {ops : Array Oper} {rest : List Oper} {o : Oper} {a : Act} {Q : Exit → Act → World → Prop}
    (hg : o.guard = none) (l c : Operand) (t : TypeId) (hop : o.op = Op.makeSlice t l c)
    (base : Nat) (e : TypeId) (i : TypeInfo) (z : Value) (size : Nat) (h1 : P.underlying t = some (.slice e)) (h2 : P.info? e = some i) (h3 : i.zero = some z) (h4 : i.size = size)
    (kl kc : IntKind) (L C : Int) (m : Nat) (hl : a.eval l = .int kl L) (hc : a.eval c = .int kc C) (hL : L = (m : Int)) (hC : C = (m : Int)) (b2 : i.bytes * m ≤ 281474976710656) (b3 : m ≤ maxLen) (b4 : base ≤ w.heap.size)
    (hK : ∀ w', w'.ownsRow base e size (.slice (some ⟨w.heap.size, 0, none⟩) m m) m (madeCells z.cells (m * size)).toList → w.grownBy w' none → wpListIn F n P ops Q rest (a.put o.dst (.slice (some ⟨w.heap.size, 0, none⟩) m m)) w') :
    wpListIn F n P ops Q (o :: rest) a w := by
  subst hL; subst hC
  obtain ⟨w', hrun, r1, r2⟩ := run_make_full (P := P) w base t e i z size h1 h2 h3 h4 kl kc m b2 b3 b4
  refine wpListIn_plain hg fun K hK' => ?_
  have hcall : ∀ x : Oper → Prop, x o → x o := fun _ h => h
  unfold Oper.wpIn
  constructor
  · simp [Oper.about, hop]
  · rw [Oper.semAt_plain F _ _ (by rw [hop]; intro c' hc'; cases hc')]
    simp only [execOp, hop, hl, hc]
    simp [hrun, Result.andThen]
    exact hK' _ _ (hK w' r1 r2)

/-- A variable's box whose value hangs on what has come. -/
theorem boxed_own {β : Type} (B : Nat) (t : TypeId) (f : β → Value) : Own (fun s W => Boxed W B t (f s)) := by
  intro s X Y row hv hg hrow
  refine hv.kept hg (fun e' => ?_)
  obtain ⟨o, ho, hc⟩ := hrow B e'.symm
  rw [show X.heap[B]? = _ from hv] at ho; cases ho; cases hc

/-- A candidate's number, below m. -/
abbrev Cn (m : Nat) := { z : Int // 0 ≤ z ∧ z < (m : Int) }

end Go.Proofs.Ytojfpnjnbpeniaa

namespace Go.Proofs.Ytojfpnjnbpeniaa
open Go.RowKit

theorem slice_info : (Try.prog.info? 26).map (fun i => (i.zero, i.size, i.bytes)) = some (some (.slice none 0 0), 1, 24) := by kernel_rfl

/-- A slice of slices of ints that came in. -/
def IsRowSS (w : World) (a : Option Addr) (len cap : Nat) (A : Nat → Option Addr) (L C : Nat → Nat) (Z : Nat → List Int) : Prop :=
  (a = none ∧ len = 0 ∧ cap = 0) ∨ ∃ x, a = some x ∧ len ≤ cap ∧ cap ≤ maxLen ∧
    ∀ r, r < cap → w.cell? (x.add r) = some (.slice (A r) (L r) (C r)) ∧ L r ≤ C r ∧ C r ≤ maxLen ∧ (Z r).length = C r ∧ (A r = none → C r = 0) ∧ ∀ a', A r = some a' → ∀ c, c < C r → w.cell? (a'.add c) = some (.int .i64 ((Z r).getD c 0))

theorem IsRowSS.len_le {w : World} {a : Option Addr} {len cap : Nat} {A : Nat → Option Addr} {L C : Nat → Nat} {Z : Nat → List Int} (h : IsRowSS w a len cap A L C Z) : len ≤ maxLen := by
  rcases h with ⟨_, h, _⟩ | ⟨x, _, h1, h2, _⟩ <;> unfold maxLen at * <;> omega
theorem IsRowSS.head {w : World} {a : Option Addr} {len cap : Nat} {A : Nat → Option Addr} {L C : Nat → Nat} {Z : Nat → List Int} (h : IsRowSS w a len cap A L C Z) (hp : 0 < len) :
    ∃ b off, a = some ⟨b, off, none⟩ ∧ b < w.heap.size ∧ ∀ j, j < len → w.cell? ⟨b, off + j, none⟩ = some (.slice (A j) (L j) (C j)) ∧ L j ≤ maxLen := by
  rcases h with ⟨_, h, _⟩ | ⟨⟨b, off, spot⟩, rfl, h1, h2, h3⟩
  · omega
  · have h0 := (h3 0 (by omega)).1
    have hs : spot = none := by simpa [Addr.add] using World.cell?_spot h0
    subst hs
    refine ⟨b, off, rfl, World.block_lt_of_cell? w _ h0, fun j hj => ?_⟩
    obtain ⟨g1, g2, g3, _⟩ := h3 j (by omega)
    rw [add_spot] at g1
    exact ⟨g1, by omega⟩
theorem IsRowSS.rows {w : World} {a : Option Addr} {len cap : Nat} {A : Nat → Option Addr} {L C : Nat → Nat} {Z : Nat → List Int} (h : IsRowSS w a len cap A L C Z) (hl : len ≤ 1048576) (hL : ∀ j, j < len → L j ≤ 1048576) :
    IsRows w a len cap ((List.range len).map fun r => (Z r).take (L r)) := by
  rcases h with ⟨rfl, rfl, rfl⟩ | ⟨⟨b, off, spot⟩, rfl, h1, h2, h3⟩
  · exact ⟨rfl, Nat.le_refl _, by omega, fun h => by omega⟩
  · refine ⟨by simp, h1, by omega, fun hp => ?_⟩
    have h0 := (h3 0 (by omega)).1
    have hs : spot = none := by simpa [Addr.add] using World.cell?_spot h0
    subst hs
    refine ⟨b, off, rfl, World.block_lt_of_cell? w _ h0, fun j hj => ?_⟩
    obtain ⟨g1, g2, g3, g4, g5, g6⟩ := h3 j (by omega)
    rw [add_spot] at g1
    refine ⟨A j, L j, C j, g1, ?_⟩
    have e : ((List.range len).map fun r => (Z r).take (L r))[j]?.getD [] = (Z j).take (L j) := by simp [hj]
    rw [e]
    refine ⟨by simp; omega, g2, by have := hL j hj; omega, fun hp2 => ?_⟩
    cases hA : A j with
    | none => have := g5 hA; omega
    | some a' =>
      obtain ⟨b', off', spot'⟩ := a'
      have k0 := g6 _ hA 0 (by omega)
      have hs' : spot' = none := by simpa [Addr.add] using World.cell?_spot k0
      subst hs'
      refine ⟨b', off', rfl, World.block_lt_of_cell? w _ k0, fun i hi => ?_⟩
      have := g6 _ hA i (by omega)
      rw [List.getElem?_take_of_lt hi]
      rw [add_spot] at this
      simpa [List.getD] using this

theorem quiet_dr {P : Program} {f : FuncId} {args : Array Value} {w : World} {n : Nat} {v : Value}
    (h : Calls P f args (w.drewN n) fun e w' => e = .returned v ∧ Dr (w.drewN n) w') : Calls P f args (w.drewN n) fun e w'' => e = .returned v ∧ ∃ m, w'' = w.drewN m :=
  h.mono fun _ _ ⟨he, q, hq⟩ => ⟨he, n + q, by rw [hq]; simp⟩

end Go.Proofs.Ytojfpnjnbpeniaa

namespace Go.Proofs.Ytojfpnjnbpeniaa
open Go.RowKit

attribute [local go_sem] Oper.semAt_some

theorem pairF_next {ps : List Pl} {k : Nat} (h : k < ps.length) (x y : Nat) : pairF (ps.take (k + 1)) x y = pairF (ps.take k) x y + (if prefB (parseL (tAt ps k)) (x : Int) (y : Int) = true then mAt ps k else 0) := by
  rw [take_one h, pairF_snoc]
theorem pairF_zero (x y : Nat) : pairF [] x y = 0 := rfl
theorem pairF_most {ps : List Pl} (h : pilesB ps = true) (k x y : Nat) : 0 ≤ pairF (ps.take k) x y ∧ pairF (ps.take k) x y ≤ 1188 := by
  have hp := pilesB_pos h
  have h1 : ∀ p ∈ ps.take k, 1 ≤ p.2 := fun p hm => hp.2.1 p (List.mem_of_mem_take hm)
  have a := pairF_low h1 x y
  have b := pairF_low h1 y x
  have c := pairF_two h1 x y
  have d : sumL (ps.take k) ≤ 99 * ((ps.take k).length : Int) := by
    have h2 : ∀ p ∈ ps.take k, p.2 ≤ 99 := fun p hm => hp.2.2.1 p (List.mem_of_mem_take hm)
    generalize ps.take k = l at h2
    induction l with
    | nil => simp [sumL]
    | cons p l ih =>
      have := ih (fun q hq => h2 q (List.mem_cons_of_mem _ hq))
      have := h2 p (by simp)
      rw [sumL_cons, List.length_cons]; push_cast; omega
  have e : (ps.take k).length ≤ 12 := Nat.le_trans (List.length_take_le' _ _) hp.2.2.2.2
  omega

/-- The row that is being filled: the first y candidates have the next pile's ballots, too. -/
def rowF (ps : List Pl) (x i y : Nat) : Nat → Value := fun j => .int .i64 (if j < y then pairF (ps.take (i + 1)) x j else pairF (ps.take i) x j)
theorem rowF_start (ps : List Pl) (x i n : Nat) : (List.range n).map (rowF ps x i 0) = (List.range n).map (fun j => Value.int .i64 (pairF (ps.take i) x j)) := by
  refine List.map_congr_left (fun j _ => ?_)
  unfold rowF; rw [if_neg (Nat.not_lt_zero _)]
theorem rowF_end (ps : List Pl) (x i n : Nat) : (List.range n).map (rowF ps x i n) = (List.range n).map (fun j => Value.int .i64 (pairF (ps.take (i + 1)) x j)) := by
  refine List.map_congr_left (fun j hj => ?_)
  unfold rowF; rw [if_pos (List.mem_range.1 hj)]
theorem rowF_at (ps : List Pl) (x i y : Nat) : rowF ps x i y y = .int .i64 (pairF (ps.take i) x y) := by unfold rowF; rw [if_neg (Nat.lt_irrefl _)]
theorem rowF_hit {ps : List Pl} {x i y n : Nat} (hi : i < ps.length) (h : prefB (parseL (tAt ps i)) (x : Int) (y : Int) = true) :
    ((List.range n).map (rowF ps x i y)).set y (.int .i64 (pairF (ps.take i) x y + mAt ps i)) = (List.range n).map (rowF ps x i (y + 1)) := by
  apply List.ext_getElem
  · simp
  · intro j h1 h2
    simp only [List.getElem_set, List.getElem_map, List.getElem_range]
    by_cases e : y = j
    · subst e
      rw [if_pos rfl]; unfold rowF; rw [if_pos (Nat.lt_succ_self _), pairF_next hi, if_pos h]
    · rw [if_neg e]; unfold rowF
      by_cases e2 : j < y
      · rw [if_pos e2, if_pos (by omega)]
      · rw [if_neg e2, if_neg (by omega)]
theorem rowF_miss {ps : List Pl} {x i y n : Nat} (hi : i < ps.length) (h : prefB (parseL (tAt ps i)) (x : Int) (y : Int) = false) :
    (List.range n).map (rowF ps x i y) = (List.range n).map (rowF ps x i (y + 1)) := by
  refine List.map_congr_left (fun j _ => ?_)
  unfold rowF
  by_cases e : j = y
  · subst e; rw [if_neg (Nat.lt_irrefl _), if_pos (Nat.lt_succ_self _), pairF_next hi, h]; simp
  · by_cases e2 : j < y
    · rw [if_pos e2, if_pos (by omega)]
    · rw [if_neg e2, if_neg (by omega)]
theorem zero_row (n : Nat) (ps : List Pl) (x : Nat) : (madeCells (Value.int .i64 0).cells (n * 1)).toList = (List.range n).map (fun j => Value.int .i64 (pairF (ps.take 0) x j)) := by
  rw [show (Value.int .i64 0).cells = #[.int .i64 0] from rfl, toList_madeCells_one, List.take_zero]
  simp only [pairF_zero]
  rw [Nat.mul_one]
  apply List.ext_getElem
  · simp
  · intro i h1 h2; simp

end Go.Proofs.Ytojfpnjnbpeniaa

namespace Go.Proofs.Ytojfpnjnbpeniaa
open Go.RowKit

attribute [local go_sem] Oper.semAt_some

end Go.Proofs.Ytojfpnjnbpeniaa

namespace Go.Proofs.Ytojfpnjnbpeniaa
open Go.RowKit

attribute [local go_sem] Oper.semAt_some

/-- Whether x is preferred to each other one. -/
def winsB (M : Nat → Nat → Int) (n x : Nat) : Bool := (List.range n).all fun y => decide (x = y) || decide (M y x < M x y)
theorem winsB_iff (M : Nat → Nat → Int) (n x : Nat) : winsB M n x = true ↔ Wins M n x := by
  unfold winsB Wins
  rw [List.all_eq_true]
  constructor
  · intro h y hy hne
    have := h y (List.mem_range.2 hy)
    simp only [Bool.or_eq_true, decide_eq_true_eq] at this
    rcases this with e | e
    · exact absurd e.symm hne
    · exact e
  · intro h y hy
    by_cases e : x = y
    · simp [e]
    · have := h y (List.mem_range.1 hy) (fun g => e g.symm)
      simp [this]
theorem winsB_no {M : Nat → Nat → Int} {n x y : Nat} (hy : y < n) (hne : y ≠ x) (h : M x y ≤ M y x) : winsB M n x = false := by
  cases hw : winsB M n x
  · rfl
  · have := (winsB_iff M n x).1 hw y hy hne; omega
theorem fromZero_at {n k : Nat} (h : k < n) : (fromZero n)[k]?.getD 0 = (k : Int) := by simp [fromZero, h]

/-- The winner of pairs, or -1. -/
def pairW (M : Nat → Nat → Int) (n : Nat) : Int := match (List.range n).find? (winsB M n) with | some x => (x : Int) | none => -1
theorem pairW_yes {M : Nat → Nat → Int} {n x : Nat} (hx : x < n) (h : winsB M n x = true) : pairW M n = (x : Int) := by
  unfold pairW
  cases hf : (List.range n).find? (winsB M n) with
  | none =>
    rw [List.find?_eq_none] at hf
    exact absurd h (hf x (List.mem_range.2 hx))
  | some y =>
    have h1 := List.find?_some hf
    have h2 := List.mem_range.1 (List.mem_of_find?_eq_some hf)
    rw [wins_one h2 hx ((winsB_iff M n y).1 h1) ((winsB_iff M n x).1 h)]
theorem pairW_no {M : Nat → Nat → Int} {n : Nat} (h : ∀ x, x < n → winsB M n x = false) : pairW M n = -1 := by
  unfold pairW
  have hf : (List.range n).find? (winsB M n) = none := by
    rw [List.find?_eq_none]
    intro x hx
    rw [h x (List.mem_range.1 hx)]; simp
  rw [hf]
theorem pairW_cases (M : Nat → Nat → Int) (n : Nat) : (pairW M n = -1 ∧ ∀ x, x < n → ¬ Wins M n x) ∨ ∃ x, x < n ∧ Wins M n x ∧ pairW M n = (x : Int) := by
  rcases Classical.em (∃ x, x < n ∧ winsB M n x = true) with ⟨x, hx, h⟩ | h
  · exact .inr ⟨x, hx, (winsB_iff M n x).1 h, pairW_yes hx h⟩
  · have h' : ∀ x, x < n → winsB M n x = false := fun x hx => by
      cases e : winsB M n x
      · rfl
      · exact absurd ⟨x, hx, e⟩ h
    exact .inl ⟨pairW_no h', fun x hx hw => by have := (winsB_iff M n x).2 hw; rw [h' x hx] at this; cases this⟩
/-- What PairWinner answers. -/
def winnerF (ps : List Pl) (n : Int) : Int := if fitsB ps n = true then pairW (pairF ps) n.toNat else -1

/-- What PairCounts returns: a table, or nothing. -/
def GaveT (w : World) (B : Nat) (ok : Bool) (n : Nat) (M : Nat → Nat → Int) (e : Ending) (w' : World) : Prop :=
  ∃ a cap G C, e = .returned (.tuple #[.slice a (if ok = true then n else 0) cap, .bool ok]) ∧ (ok = true → Tb 3 26 w' B a n cap n n G C (fun x y => .int .i64 (M x y))) ∧ Below w.heap.size w w'

end Go.Proofs.Ytojfpnjnbpeniaa
