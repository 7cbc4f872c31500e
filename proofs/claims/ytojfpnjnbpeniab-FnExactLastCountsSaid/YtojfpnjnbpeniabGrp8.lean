/-
  A table of a call's own: rows of n cells, each in a block of its own. Of no function of the seat.
  Marks of a table: markIntSS writes into its rows alone, heldIntSS finds them again; equal lists of ints. No condition but what each theorem says.
  Sums over all ballots of piles, as lists: of parts, of merged piles, of piles with two candidates exchanged. Of no memory.
  The first candidate of a ballot who has not left, as lists. Of no memory.
  First preferences are counted, as lists: of ballots that come one pile after the other, of parts, and when somebody leaves. Of no memory.
  Lots, as lists: what they are, how a seed draws them, the first of some, the seal. Of no memory.
-/
import Derived.Test.YtojfpnjnbpeniabGrp7
import Derived.Deep.Onto
import Derived.Test.YtojfpnjnbpeniabGrp2
import Derived.Test.YtojfpnjnbpeniabGrp1
namespace Go.Proofs.Ytojfpnjnbpeniab
open Go.RowKit

/-- The first k of len rows (of type R) are made: the j-th is block G j (capacity C j), its n cells (of type E) are F j. -/
structure Tb (E R : TypeId) (w : World) (base : Nat) (a : Option Addr) (len cap k n : Nat) (G C : Nat → Nat) (F : Nat → Nat → Value) : Prop where
  outer : ∃ V, w.ownsRow base R 1 (.slice a len cap) len V ∧ ∀ j, j < k → V[j]? = some (.slice (some ⟨G j, 0, none⟩) n (C j))
  inner : ∀ j, j < k → w.ownsRow base E 1 (.slice (some ⟨G j, 0, none⟩) n (C j)) n ((List.range n).map (F j))
  order : ∀ i j, i < j → j < k → G i < G j

theorem range_cell {n : Nat} (f : Nat → Value) {j : Nat} (h : j < n) : ((List.range n).map f)[j]? = some (f j) := by simp [h]
theorem owns_type {w : World} {base base' n n' c c' g : Nat} {E R : TypeId} {xs ys : List Value} (h : w.ownsRow base E 1 (.slice (some ⟨g, 0, none⟩) n c) n xs) (h' : w.ownsRow base' R 1 (.slice (some ⟨g, 0, none⟩) n' c') n' ys) : E = R := by
  rcases h.2 with ⟨e, _⟩ | ⟨g1, c1, cur1, e1, _, hg1, _⟩
  · simp at e
  · rcases h'.2 with ⟨e, _⟩ | ⟨g2, c2, cur2, e2, _, hg2, _⟩
    · simp at e
    · injection e1 with e1 _ _
      injection e2 with e2 _ _
      injection e1 with e1
      injection e1 with e1 _ _
      injection e2 with e2
      injection e2 with e2 _ _
      subst e1
      subst e2
      rw [hg1] at hg2
      injection hg2 with hg2
      injection hg2 with _ hg2 _

namespace Tb
variable {E R : TypeId} {w w' : World} {base len cap k n : Nat} {a : Option Addr} {G C : Nat → Nat} {F F' : Nat → Nat → Value}

theorem under (h : Tb E R w base a len cap k n G C F) (hb : Below w.heap.size w w') : Tb E R w' base a len cap k n G C F :=
  ⟨by obtain ⟨V, h1, h2⟩ := h.outer; exact ⟨V, owns_under h1 hb, h2⟩, fun j hj => owns_under (h.inner j hj) hb, h.order⟩
theorem lt (h : Tb E R w base a len cap k n G C F) {j : Nat} (hj : j < k) : base ≤ G j ∧ G j < w.heap.size := (h.inner j hj).lt (G j) rfl
theorem congr (h : Tb E R w base a len cap k n G C F) (he : ∀ i j, i < k → j < n → F i j = F' i j) : Tb E R w base a len cap k n G C F' :=
  ⟨h.outer, fun i hi => by
    have e : (List.range n).map (F' i) = (List.range n).map (F i) := List.map_congr_left (fun j hj => (he i j hi (List.mem_range.1 hj)).symm)
    rw [e]; exact h.inner i hi, h.order⟩
theorem mono {base' : Nat} (h : Tb E R w base a len cap k n G C F) (hb : base' ≤ base) : Tb E R w base' a len cap k n G C F :=
  ⟨by obtain ⟨V, h1, h2⟩ := h.outer; exact ⟨V, World.ownsRow.mono h1 hb, h2⟩, fun j hj => World.ownsRow.mono (h.inner j hj) hb, h.order⟩
theorem head (h : Tb E R w base a len cap k n G C F) (hl : 0 < len) : ∃ g, a = some ⟨g, 0, none⟩ ∧ base ≤ g ∧ g < w.heap.size ∧ len ≤ cap := by
  obtain ⟨V, h1, h2⟩ := h.outer
  rcases h1.2 with ⟨_, e⟩ | ⟨g, c, cur, e1, hb, hg, hc, _⟩
  · omega
  · injection e1 with e1 _ e3
    subst e3
    exact ⟨g, e1, hb, (Array.getElem?_eq_some_iff.1 hg).1, hc⟩
theorem row_cell {g : Nat} (h : Tb E R w base (some ⟨g, 0, none⟩) len cap k n G C F) {j : Nat} (hj : j < k) (hk : k ≤ len) : w.cell? ⟨g, j, none⟩ = some (.slice (some ⟨G j, 0, none⟩) n (C j)) := by
  obtain ⟨V, h1, h2⟩ := h.outer
  rw [h1.cellAt j (by omega)]; exact h2 j hj
theorem cell (h : Tb E R w base a len cap k n G C F) {x y : Nat} (hx : x < k) (hy : y < n) : w.cell? ⟨G x, y, none⟩ = some (F x y) := by
  rw [(h.inner x hx).cellAt y (by omega)]; exact range_cell _ hy
theorem frozen (h : Tb E R w base a len cap k n G C F) {x : Nat} (hx : x < k) (y : Nat) : w.frozen? ⟨G x, y, none⟩ = false := (h.inner x hx).frozenAt y
theorem ne (h : Tb E R w base a len cap k n G C F) {i j : Nat} (hi : i < k) (hj : j < k) (hne : i ≠ j) : G i ≠ G j := by
  rcases Nat.lt_or_gt_of_ne hne with g | g
  · have := h.order i j g hj; omega
  · have := h.order j i g hi; omega
theorem out_ne {g : Nat} (hER : E ≠ R) (h : Tb E R w base (some ⟨g, 0, none⟩) len cap k n G C F) {j : Nat} (hj : j < k) : G j ≠ g := by
  intro e
  obtain ⟨V, h1, h2⟩ := h.outer
  have h3 := h.inner j hj
  rw [e] at h3
  exact hER (owns_type h3 h1)

/-- A cell of a row is written. -/
theorem set (hER : E ≠ R) (h : Tb E R w base a len cap k n G C F) {x y : Nat} (hx : x < k) (hy : y < n) (v : Value) :
    Tb E R (w.setCell ⟨G x, y, none⟩ v) base a len cap k n G C (fun i j => if i = x ∧ j = y then v else F i j) ∧ w.grownBy (w.setCell ⟨G x, y, none⟩ v) (some (G x)) := by
  have hs := (h.inner x hx).stored y v
  refine ⟨⟨?_, fun j hj => ?_, h.order⟩, hs.2⟩
  · obtain ⟨V, h1, h2⟩ := h.outer
    refine ⟨V, h1.kept hs.2 ?_, h2⟩
    cases hb : (Value.slice a len cap).ownBlock with
    | none => exact .inl rfl
    | some b =>
      right
      intro e
      injection e with e
      cases a with
      | none => simp [Value.ownBlock] at hb
      | some ad =>
        have h0 := h1
        rcases h0.2 with ⟨e0, _⟩ | ⟨g, c, cur, e1, _, hg, _⟩
        · simp at e0
        · injection e1 with e1 _ _
          injection e1 with e1
          subst e1
          simp [Value.ownBlock] at hb
          exact out_ne hER h hx (by omega)
  · by_cases e : j = x
    · subst e
      have e2 : (List.range n).map (fun y' => if j = j ∧ y' = y then v else F j y') = ((List.range n).map (F j)).set y v := by
        apply List.ext_getElem
        · simp
        · intro i h1 h2
          simp only [List.getElem_map, List.getElem_range, List.getElem_set, true_and]
          by_cases e3 : i = y
          · subst e3; simp
          · rw [if_neg e3, if_neg (fun e4 => e3 e4.symm)]
      rw [e2]; exact hs.1
    · have e2 : (List.range n).map (fun y' => if j = x ∧ y' = y then v else F j y') = (List.range n).map (F j) := by
        refine List.map_congr_left (fun i _ => ?_)
        rw [if_neg (fun g => e g.1)]
      rw [e2]
      exact (h.inner j hj).kept hs.2 (.inr (by simp [Value.ownBlock]; exact h.ne hj hx e))

/-- A new row is stored. -/
theorem store {g g2 c2 : Nat} {f : Nat → Value} (hER : E ≠ R) (h : Tb E R w base (some ⟨g, 0, none⟩) len cap k n G C F) (hk : k < len) (hx : w.ownsRow base E 1 (.slice (some ⟨g2, 0, none⟩) n c2) n ((List.range n).map f)) (hlast : ∀ j, j < k → G j < g2) :
    Tb E R (w.setCell ⟨g, k, none⟩ (.slice (some ⟨g2, 0, none⟩) n c2)) base (some ⟨g, 0, none⟩) len cap (k + 1) n (fun j => if j = k then g2 else G j) (fun j => if j = k then c2 else C j) (fun j => if j = k then f else F j) := by
  obtain ⟨V, h1, h2⟩ := h.outer
  have hs := h1.stored k (.slice (some ⟨g2, 0, none⟩) n c2)
  have hV : V.length = len := by have := h1.1; omega
  have hg2 : g2 ≠ g := fun e => by subst e; exact hER (owns_type hx h1)
  refine ⟨⟨_, hs.1, fun j hj => ?_⟩, fun j hj => ?_, fun i j hij hj => ?_⟩
  · by_cases e : j = k
    · subst e; simp only [if_true]; rw [List.getElem?_set_self (by omega)]
    · simp only [if_neg e]; rw [List.getElem?_set_ne (by omega)]; exact h2 j (by omega)
  · by_cases e : j = k
    · subst e; simp only [if_true]; exact hx.kept hs.2 (.inr (by simp [Value.ownBlock]; exact hg2))
    · simp only [if_neg e]; exact (h.inner j (by omega)).kept hs.2 (.inr (by simp [Value.ownBlock]; exact out_ne hER h (by omega)))
  · by_cases e : j = k
    · subst e
      have e2 : ¬ i = j := by omega
      simp only [if_neg e2, if_true]
      exact hlast i hij
    · have e2 : ¬ i = k := by omega
      simp only [if_neg e2, if_neg e]
      exact h.order i j hij (by omega)

/-- A new row is appended. -/
theorem push {a' : Option Addr} {cap' g2 c2 : Nat} {f : Nat → Value} {V : List Value} (hER : E ≠ R) (h : Tb E R w base a k cap k n G C F) (h1 : w.ownsRow base R 1 (.slice a k cap) k V) (h2 : ∀ j, j < k → V[j]? = some (.slice (some ⟨G j, 0, none⟩) n (C j)))
    (hx : w.ownsRow base E 1 (.slice (some ⟨g2, 0, none⟩) n c2) n ((List.range n).map f)) (hlast : ∀ j, j < k → G j < g2)
    (ho : w'.ownsRow base R 1 (.slice a' (k + 1) cap') (k + 1) (V ++ [.slice (some ⟨g2, 0, none⟩) n c2])) (hg : w.grownBy w' (Value.slice a k cap).ownBlock) :
    Tb E R w' base a' (k + 1) cap' (k + 1) n (fun j => if j = k then g2 else G j) (fun j => if j = k then c2 else C j) (fun j => if j = k then f else F j) := by
  have hV : V.length = k := by have := h1.1; omega
  have hown : ∀ gj cj f', w.ownsRow base E 1 (.slice (some ⟨gj, 0, none⟩) n cj) n ((List.range n).map f') → w'.ownsRow base E 1 (.slice (some ⟨gj, 0, none⟩) n cj) n ((List.range n).map f') := by
    intro gj cj f' h3
    refine h3.kept hg ?_
    right
    intro e
    cases a with
    | none => simp [Value.ownBlock] at e
    | some ad =>
      rcases h1.2 with ⟨e0, _⟩ | ⟨g, c, cur, e1, _, hg', _⟩
      · simp at e0
      · injection e1 with e1 _ _
        injection e1 with e1
        subst e1
        simp [Value.ownBlock] at e
        subst e
        exact hER (owns_type h3 h1)
  refine ⟨⟨_, ho, fun j hj => ?_⟩, fun j hj => ?_, fun i j hij hj => ?_⟩
  · by_cases e : j = k
    · subst e; simp only [if_true]; rw [List.getElem?_append_right (by omega), hV, Nat.sub_self]; rfl
    · simp only [if_neg e]; rw [List.getElem?_append_left (by omega)]; exact h2 j (by omega)
  · by_cases e : j = k
    · subst e; simp only [if_true]; exact hown _ _ _ hx
    · simp only [if_neg e]; exact hown _ _ _ (h.inner j (by omega))
  · by_cases e : j = k
    · subst e
      have e2 : ¬ i = j := by omega
      simp only [if_neg e2, if_true]
      exact hlast i hij
    · have e2 : ¬ i = k := by omega
      simp only [if_neg e2, if_neg e]
      exact h.order i j hij (by omega)
/-- No row yet. -/
theorem start {V : List Value} (h : w.ownsRow base R 1 (.slice a len cap) len V) : Tb E R w base a len cap 0 n G C F :=
  ⟨⟨V, h, fun j hj => by omega⟩, fun j hj => by omega, fun i j _ hj => by omega⟩
end Tb

/-- The rows of a table. -/
def tabL {α : Type} (n : Nat) (f : Nat → Nat → α) : List (List α) := (List.range n).map fun x => (List.range n).map (f x)
theorem tabL_length {α : Type} (n : Nat) (f : Nat → Nat → α) : (tabL n f).length = n := by simp [tabL]
theorem tabL_row {α : Type} (n : Nat) (f : Nat → Nat → α) {x : Nat} (hx : x < n) : (tabL n f)[x]?.getD [] = (List.range n).map (f x) := by simp [tabL, hx]
theorem tabL_congr {α : Type} {n : Nat} {f f' : Nat → Nat → α} (h : ∀ x y, x < n → y < n → f x y = f' x y) : tabL n f = tabL n f' :=
  List.map_congr_left fun x hx => List.map_congr_left fun y hy => h x y (List.mem_range.1 hx) (List.mem_range.1 hy)

/-- What reads as a table of ints. -/
def IsTab (w : World) (a : Option Addr) (len cap n : Nat) (f : Nat → Nat → Int) : Prop := IsRows w a len cap (tabL n f)
theorem Tb.isRows {E R : TypeId} {w : World} {base cap n : Nat} {a : Option Addr} {G C : Nat → Nat} {F : Nat → Nat → Value} {f : Nat → Nat → Int} (h : Tb E R w base a n cap n n G C F) (hn : n ≤ 1048600) (hF : ∀ i j, i < n → j < n → F i j = .int .i64 (f i j)) : IsRows w a n cap (tabL n f) := by
  refine ⟨tabL_length n f, ?_, hn, fun hl => ?_⟩
  · rcases Nat.eq_zero_or_pos n with e | e
    · omega
    · obtain ⟨g, _, _, _, h4⟩ := h.head e; exact h4
  obtain ⟨g, rfl, hb, hg, hc⟩ := h.head hl
  refine ⟨g, 0, rfl, hg, fun j hj => ⟨some ⟨G j, 0, none⟩, n, C j, by rw [Nat.zero_add]; exact h.row_cell hj (Nat.le_refl _), ?_⟩⟩
  rw [tabL_row n f hj]
  have hin := h.inner j hj
  refine ⟨by simp, ?_, hn, fun _ => ⟨G j, 0, rfl, (h.lt hj).2, fun i hi => ?_⟩⟩
  · rcases hin.2 with ⟨e0, _⟩ | ⟨g', c', cur, e1, _, _, h3, _⟩
    · simp at e0
    · injection e1 with _ _ e3; omega
  · rw [Nat.zero_add, h.cell hj hi, hF j i hj hi]; simp [hi]

end Go.Proofs.Ytojfpnjnbpeniab

namespace Go.Proofs.Ytojfpnjnbpeniab
open Go.RowKit

theorem eqIntS_self (a : Option Addr) (len cap : Nat) (zs : List Int) (b : Option Addr) (cap' : Nat) (w : World) (h : IsInts w a len cap zs) (h' : IsInts w b len cap' zs) :
    Calls Try.prog 8 #[.slice a len cap, .slice b len cap'] w fun e w' => e = .returned (.bool true) ∧ Dr w w' :=
  (eqIntS_any a len cap zs b len cap' zs w h h').mono fun e w' ⟨he, hd⟩ => ⟨by rw [he, eqB_self], hd⟩
/-- A row is written anew. -/
theorem Tb.anew {E R : TypeId} {w w' : World} {base len cap k n : Nat} {a : Option Addr} {G C : Nat → Nat} {F : Nat → Nat → Value} (hER : E ≠ R) (h : Tb E R w base a len cap k n G C F) {x : Nat} (hx : x < k) {f : Nat → Value} (hs : w.grownBy w' (some (G x)))
    (hr : w'.ownsRow base E 1 (.slice (some ⟨G x, 0, none⟩) n (C x)) n ((List.range n).map f)) : Tb E R w' base a len cap k n G C (fun i j => if i = x then f j else F i j) := by
  refine ⟨?_, fun j hj => ?_, h.order⟩
  · obtain ⟨V, h1, h2⟩ := h.outer
    refine ⟨V, h1.kept hs ?_, h2⟩
    cases hb : (Value.slice a len cap).ownBlock with
    | none => exact .inl rfl
    | some b =>
      right
      intro e
      injection e with e
      cases a with
      | none => simp [Value.ownBlock] at hb
      | some ad =>
        have h0 := h1
        rcases h0.2 with ⟨e0, _⟩ | ⟨g, c, cur, e1, _, hg, _⟩
        · simp at e0
        · injection e1 with e1 _ _
          injection e1 with e1
          subst e1
          simp [Value.ownBlock] at hb
          exact Tb.out_ne hER h hx (by omega)
  · by_cases e : j = x
    · subst e
      have e2 : (List.range n).map (fun y => if j = j then f y else F j y) = (List.range n).map f := List.map_congr_left (fun i _ => by rw [if_pos rfl])
      rw [e2]; exact hr
    · have e2 : (List.range n).map (fun y => if j = x then f y else F j y) = (List.range n).map (F j) := List.map_congr_left (fun i _ => by rw [if_neg e])
      rw [e2]
      exact (h.inner j hj).kept hs (.inr (by simp [Value.ownBlock]; exact h.ne hj hx e))

/-- The marks of the rows before x. -/
def markF (F : Nat → Nat → Value) (n x : Nat) : Nat → Nat → Value := fun i j => if i < x then .int .i64 (1 + (n : Int) * (i : Int) + (j : Int)) else F i j
theorem marks_row (n : Nat) (k : Int) : (marks k n).map (Value.int .i64) = (List.range n).map (fun (j : Nat) => Value.int .i64 (k + (j : Int))) := by
  unfold marks; rw [List.map_map]; rfl
theorem mul_step (n k : Nat) : (n : Int) * ((k : Int) + 1) = (n : Int) * (k : Int) + (n : Int) := by rw [Int.mul_add, Int.mul_one]
theorem mul_five {n k : Nat} (hn : n ≤ 5) (hk : k ≤ n) : 0 ≤ (n : Int) * (k : Int) ∧ (n : Int) * (k : Int) ≤ 25 := by
  have h : n * k ≤ 5 * 5 := Nat.mul_le_mul hn (by omega)
  constructor
  · exact Int.mul_nonneg (by omega) (by omega)
  · have : ((n * k : Nat) : Int) ≤ 25 := by omega
    rwa [Int.natCast_mul] at this

end Go.Proofs.Ytojfpnjnbpeniab

namespace Go.Proofs.Ytojfpnjnbpeniab

/-- Each ballot counts for what f says of its text. -/
def wsum (f : ByteArray → Int) (ps : List Pl) : Int := ps.foldr (fun p s => f p.1 * p.2 + s) 0
theorem wsum_nil (f : ByteArray → Int) : wsum f [] = 0 := rfl
theorem wsum_cons (f : ByteArray → Int) (p : Pl) (ps : List Pl) : wsum f (p :: ps) = f p.1 * p.2 + wsum f ps := rfl
theorem wsum_app (f : ByteArray → Int) (a b : List Pl) : wsum f (a ++ b) = wsum f a + wsum f b := by
  induction a with
  | nil => rw [List.nil_append, wsum_nil, Int.zero_add]
  | cons p a ih => rw [List.cons_append, wsum_cons, wsum_cons, ih, Int.add_assoc]
theorem wsum_snoc (f : ByteArray → Int) (a : List Pl) (p : Pl) : wsum f (a ++ [p]) = wsum f a + f p.1 * p.2 := by
  rw [wsum_app, wsum_cons, wsum_nil, Int.add_zero]
theorem wsum_put (f : ByteArray → Int) (ps : List Pl) (t : ByteArray) (m : Int) : wsum f (putL ps t m) = wsum f ps + f t * m := by
  induction ps with
  | nil => rw [putL, wsum_cons, wsum_nil]; show f t * m + 0 = 0 + f t * m; omega
  | cons p ps ih =>
    unfold putL
    split
    · rw [wsum_cons, ih, wsum_cons]; omega
    · split
      · rename_i h1 h2
        rw [wsum_cons, wsum_cons, h2]
        show f t * (p.2 + m) + wsum f ps = f t * p.2 + wsum f ps + f t * m
        rw [Int.mul_add]; omega
      · rw [wsum_cons, wsum_cons]
        show f t * m + (f p.1 * p.2 + wsum f ps) = f p.1 * p.2 + wsum f ps + f t * m
        omega
theorem wsum_merge (f : ByteArray → Int) (a b : List Pl) : wsum f (mergeL a b) = wsum f a + wsum f b := by
  induction b generalizing a with
  | nil => rw [mergeL, wsum_nil, Int.add_zero]
  | cons p b ih => rw [mergeL, ih, wsum_put, wsum_cons]; omega
theorem wsum_map (f : ByteArray → Int) (g : ByteArray → ByteArray) (ps : List Pl) : wsum f (ps.map fun p => (g p.1, p.2)) = wsum (fun t => f (g t)) ps := by
  induction ps with
  | nil => rfl
  | cons p ps ih => rw [List.map_cons, wsum_cons, wsum_cons, ih]
theorem wsum_turn (f : ByteArray → Int) (x y : Int) (ps : List Pl) : wsum f (turnPs x y ps) = wsum (fun t => f (turnT x y t)) ps := by
  unfold turnPs
  rw [wsum_merge, wsum_nil, wsum_map, Int.zero_add]
theorem wsum_congr {f g : ByteArray → Int} {ps : List Pl} (h : ∀ p ∈ ps, f p.1 = g p.1) : wsum f ps = wsum g ps := by
  induction ps with
  | nil => rfl
  | cons p ps ih => rw [wsum_cons, wsum_cons, h p (by simp), ih (fun q hq => h q (by simp [hq]))]
theorem wsum_le {f g : ByteArray → Int} {ps : List Pl} (h : ∀ p ∈ ps, f p.1 ≤ g p.1) (hp : ∀ p ∈ ps, 1 ≤ p.2) : wsum f ps ≤ wsum g ps := by
  induction ps with
  | nil => exact Int.le_refl _
  | cons p ps ih =>
    rw [wsum_cons, wsum_cons]
    have h1 := Int.mul_le_mul_of_nonneg_right (h p (by simp)) (show 0 ≤ p.2 by have := hp p (by simp); omega)
    have h2 := ih (fun q hq => h q (by simp [hq])) (fun q hq => hp q (by simp [hq]))
    omega
theorem wsum_zero (ps : List Pl) : wsum (fun _ => 0) ps = 0 := by
  induction ps with
  | nil => rfl
  | cons p ps ih => rw [wsum_cons, ih, Int.zero_mul, Int.zero_add]
theorem wsum_one (ps : List Pl) : wsum (fun _ => 1) ps = sumL ps := by
  induction ps with
  | nil => rfl
  | cons p ps ih => rw [wsum_cons, ih, Int.one_mul, sumL_cons]
theorem wsum_nonneg {f : ByteArray → Int} {ps : List Pl} (h : ∀ p ∈ ps, 0 ≤ f p.1) (hp : ∀ p ∈ ps, 1 ≤ p.2) : 0 ≤ wsum f ps := by
  have := wsum_le (f := fun _ => 0) h hp
  rwa [wsum_zero] at this
theorem wsum_most {f : ByteArray → Int} {ps : List Pl} (h : ∀ p ∈ ps, f p.1 ≤ 1) (hp : ∀ p ∈ ps, 1 ≤ p.2) : wsum f ps ≤ sumL ps := by
  have := wsum_le (g := fun _ => 1) h hp
  rwa [wsum_one] at this
theorem wsum_add (f g : ByteArray → Int) (ps : List Pl) : wsum (fun t => f t + g t) ps = wsum f ps + wsum g ps := by
  induction ps with
  | nil => rfl
  | cons p ps ih => rw [wsum_cons, wsum_cons, wsum_cons, ih, Int.add_mul]; omega

/-- The sum of some numbers. -/
def totI (l : List Int) : Int := l.foldr (· + ·) 0
theorem totI_nil : totI [] = 0 := rfl
theorem totI_cons (z : Int) (l : List Int) : totI (z :: l) = z + totI l := rfl
theorem totI_app (a b : List Int) : totI (a ++ b) = totI a + totI b := by
  induction a with
  | nil => rw [List.nil_append, totI_nil, Int.zero_add]
  | cons z a ih => rw [List.cons_append, totI_cons, totI_cons, ih, Int.add_assoc]
theorem totI_snoc (a : List Int) (z : Int) : totI (a ++ [z]) = totI a + z := by rw [totI_app, totI_cons, totI_nil, Int.add_zero]
/-- Sums over candidates and over ballots are exchanged. -/
theorem totI_wsum (F : Nat → ByteArray → Int) (n : Nat) (ps : List Pl) : totI ((List.range n).map fun k => wsum (F k) ps) = wsum (fun t => totI ((List.range n).map fun k => F k t)) ps := by
  induction n with
  | zero => simp only [List.range_zero, List.map_nil, totI_nil]; exact (wsum_zero ps).symm
  | succ n ih =>
    simp only [List.range_succ, List.map_append, List.map_cons, List.map_nil, totI_snoc]
    rw [ih, ← wsum_add]
theorem totI_le {a b : List Int} (hl : a.length = b.length) (h : ∀ i, i < a.length → a[i]?.getD 0 ≤ b[i]?.getD 0) : totI a ≤ totI b := by
  induction a generalizing b with
  | nil => cases b with
    | nil => exact Int.le_refl _
    | cons _ _ => simp at hl
  | cons x a ih => cases b with
    | nil => simp at hl
    | cons y b =>
      have h0 := h 0 (by simp)
      have ih := ih (b := b) (by simpa using hl) (fun i hi => by have := h (i + 1) (by simp [hi]); simpa using this)
      simp only [totI_cons]
      simp at h0
      omega
/-- One number of n is 1, the others are 0: or all are 0. -/
theorem totI_one (n : Nat) (z : Int) : totI ((List.range n).map fun (k : Nat) => if z = (k : Int) then (1 : Int) else 0) = if 0 ≤ z ∧ z < (n : Int) then 1 else 0 := by
  induction n with
  | zero =>
    rw [if_neg (by omega)]; rfl
  | succ n ih =>
    simp only [List.range_succ, List.map_append, List.map_cons, List.map_nil, totI_snoc]
    rw [ih]
    by_cases h1 : z = (n : Int)
    · rw [if_neg (by omega), if_pos h1, if_pos (by omega)]; rfl
    · rw [if_neg h1]
      by_cases h2 : 0 ≤ z ∧ z < (n : Int)
      · rw [if_pos h2, if_pos (by omega)]; rfl
      · rw [if_neg h2, if_neg (by omega)]; rfl

end Go.Proofs.Ytojfpnjnbpeniab

namespace Go.Proofs.Ytojfpnjnbpeniab

/-- The first of zs who has not left, or -1. -/
def firstL : List Int → List Bool → Int
  | [], _ => -1
  | z :: t, L => if L[z.toNat]?.getD false = true then firstL t L else z
theorem firstL_app {pre : List Int} {L : List Bool} (h : ∀ z ∈ pre, L[z.toNat]?.getD false = true) (rest : List Int) : firstL (pre ++ rest) L = firstL rest L := by
  induction pre with
  | nil => rfl
  | cons z t ih =>
    rw [List.cons_append, firstL, if_pos (h z (by simp))]
    exact ih (fun u hu => h u (by simp [hu]))
def firstB (zs : List Int) (L : List Bool) : Int := if validB zs (L.length : Int) = true then firstL zs L else -1

theorem firstL_mem (zs : List Int) (L : List Bool) : firstL zs L = -1 ∨ firstL zs L ∈ zs := by
  induction zs with
  | nil => exact .inl rfl
  | cons z t ih =>
    unfold firstL
    split
    · rcases ih with h | h
      · exact .inl h
      · exact .inr (by simp [h])
    · exact .inr (by simp)
theorem firstL_here {zs : List Int} {L : List Bool} (hz : ∀ z ∈ zs, 0 ≤ z) (h : 0 ≤ firstL zs L) : L[(firstL zs L).toNat]?.getD false = false := by
  induction zs with
  | nil => simp [firstL] at h
  | cons z t ih =>
    unfold firstL at h ⊢
    split
    · rename_i h1
      rw [if_pos h1] at h
      exact ih (fun u hu => hz u (by simp [hu])) h
    · rename_i h1
      simpa using h1
theorem set_at (L : List Bool) (k i : Nat) (h : k < L.length) : (L.set k true)[i]?.getD false = if i = k then true else L[i]?.getD false := by
  rw [List.getElem?_set]
  by_cases e : k = i
  · subst e; simp [h]
  · rw [if_neg e, if_neg (fun h => e h.symm)]
/-- Who stays is still the first one when another one leaves. -/
theorem firstL_set {zs : List Int} {L : List Bool} {k : Nat} (hk : k < L.length) (hz : ∀ z ∈ zs, 0 ≤ z) (h : firstL zs L ≠ (k : Int)) : firstL zs (L.set k true) = firstL zs L := by
  induction zs with
  | nil => rfl
  | cons z t ih =>
    have hz0 := hz z (by simp)
    unfold firstL at h ⊢
    by_cases h1 : L[z.toNat]?.getD false = true
    · rw [if_pos h1] at h ⊢
      rw [if_pos (by rw [set_at _ _ _ hk]; split <;> simp [h1])]
      exact ih (fun u hu => hz u (by simp [hu])) h
    · rw [if_neg h1] at h ⊢
      rw [if_neg (by rw [set_at _ _ _ hk, if_neg (by omega)]; exact h1)]
theorem firstL_set_some {zs : List Int} {L : List Bool} {k : Nat} (hk : k < L.length) (hz : ∀ z ∈ zs, 0 ≤ z) (h : 0 ≤ firstL zs (L.set k true)) : 0 ≤ firstL zs L := by
  by_cases e : firstL zs L = (k : Int)
  · omega
  · rwa [firstL_set hk hz e] at h
theorem firstL_none (zs : List Int) (n : Nat) : firstL zs (List.replicate n false) = zs.head?.getD (-1) := by
  cases zs with
  | nil => rfl
  | cons z t =>
    unfold firstL
    rw [if_neg (by rw [List.getElem?_replicate]; split <;> simp)]
    rfl

end Go.Proofs.Ytojfpnjnbpeniab

namespace Go.Proofs.Ytojfpnjnbpeniab

/-- Whether a text's first candidate is k. -/
def oneF (L : List Bool) (k : Nat) (t : ByteArray) : Int := if firstL (parseL t) L = (k : Int) then 1 else 0
/-- The counts of first preferences. -/
def countsL (ps : List Pl) (L : List Bool) : List Int := (List.range L.length).map fun k => wsum (oneF L k) ps
theorem countsL_length (ps : List Pl) (L : List Bool) : (countsL ps L).length = L.length := by simp [countsL]
theorem countsL_at (ps : List Pl) (L : List Bool) {k : Nat} (h : k < L.length) : (countsL ps L)[k]?.getD 0 = wsum (oneF L k) ps := by
  simp [countsL, h]
theorem countsL_nil (L : List Bool) : countsL [] L = List.replicate L.length 0 := by
  refine List.ext_getElem (by simp [countsL]) (fun i h1 h2 => ?_)
  simp [countsL, wsum_nil]
theorem countsL_hit {pre : List Pl} {p : Pl} {L : List Bool} {k : Nat} (hk : k < L.length) (h : firstL (parseL p.1) L = (k : Int)) : countsL (pre ++ [p]) L = (countsL pre L).set k ((countsL pre L)[k]?.getD 0 + p.2) := by
  rw [countsL_at _ _ hk]
  refine List.ext_getElem (by simp [countsL]) (fun i h1 h2 => ?_)
  have hi : i < L.length := by rwa [countsL_length] at h1
  rw [List.getElem_set]
  simp only [countsL, List.getElem_map, List.getElem_range, wsum_snoc]
  by_cases e : k = i
  · subst e
    rw [if_pos rfl]
    simp only [oneF, h, if_true, Int.one_mul]
  · rw [if_neg e]
    have : oneF L i p.1 = 0 := by unfold oneF; rw [h, if_neg (by omega)]
    rw [this, Int.zero_mul, Int.add_zero]
theorem countsL_miss {pre : List Pl} {p : Pl} {L : List Bool} (h : firstL (parseL p.1) L < 0) : countsL (pre ++ [p]) L = countsL pre L := by
  refine List.ext_getElem (by simp [countsL]) (fun i h1 h2 => ?_)
  simp only [countsL, List.getElem_map, List.getElem_range, wsum_snoc]
  have : oneF L i p.1 = 0 := by unfold oneF; rw [if_neg (by omega)]
  rw [this, Int.zero_mul, Int.add_zero]

theorem oneF_low (L : List Bool) (k : Nat) (t : ByteArray) : 0 ≤ oneF L k t := by unfold oneF; split <;> omega
theorem oneF_high (L : List Bool) (k : Nat) (t : ByteArray) : oneF L k t ≤ 1 := by unfold oneF; split <;> omega
theorem parse_pos (t : ByteArray) : ∀ z ∈ parseL t, 0 ≤ z := by
  intro z hz
  cases hv : validB (nums t) 5
  · rw [parseL_no hv] at hz; cases hz
  · rw [parseL_ok hv] at hz; exact ((vB_mem hv).2.2 z hz).1
/-- **Each ballot counts once.** -/
theorem counts_left {ps : List Pl} {L : List Bool} {k : Nat} (hk : k < L.length) (h : L[k]?.getD false = true) : (countsL ps L)[k]?.getD 0 = 0 := by
  rw [countsL_at _ _ hk, ← wsum_zero ps]
  refine wsum_congr (fun p _ => ?_)
  unfold oneF
  refine if_neg (fun e => ?_)
  have := firstL_here (parse_pos p.1) (L := L) (by omega)
  rw [e, Int.toNat_natCast, h] at this
  cases this
theorem counts_low {ps : List Pl} {L : List Bool} {k : Nat} (hk : k < L.length) (hp : ∀ p ∈ ps, 1 ≤ p.2) : 0 ≤ (countsL ps L)[k]?.getD 0 := by
  rw [countsL_at _ _ hk]
  exact wsum_nonneg (fun p _ => oneF_low _ _ _) hp
/-- The sum of all counts: each ballot that names somebody who is there. -/
def someF (L : List Bool) (t : ByteArray) : Int := if 0 ≤ firstL (parseL t) L ∧ firstL (parseL t) L < (L.length : Int) then 1 else 0
theorem counts_sum (ps : List Pl) (L : List Bool) : totI (countsL ps L) = wsum (someF L) ps := by
  unfold countsL
  rw [totI_wsum]
  refine wsum_congr (fun p _ => ?_)
  exact totI_one L.length _
theorem counts_most {ps : List Pl} {L : List Bool} (hp : ∀ p ∈ ps, 1 ≤ p.2) : totI (countsL ps L) ≤ sumL ps := by
  rw [counts_sum]
  exact wsum_most (fun p _ => by unfold someF; split <;> omega) hp
theorem count_most {ps : List Pl} {L : List Bool} {k : Nat} (hk : k < L.length) (hp : ∀ p ∈ ps, 1 ≤ p.2) : (countsL ps L)[k]?.getD 0 ≤ sumL ps := by
  rw [countsL_at _ _ hk]
  exact wsum_most (fun p _ => oneF_high _ _ _) hp
/-- **Who stays loses nothing.** -/
theorem counts_more {ps : List Pl} {L : List Bool} {k i : Nat} (hk : k < L.length) (hi : i < L.length) (hki : i ≠ k) (hp : ∀ p ∈ ps, 1 ≤ p.2) : (countsL ps L)[i]?.getD 0 ≤ (countsL ps (L.set k true))[i]?.getD 0 := by
  rw [countsL_at _ _ hi, countsL_at _ _ (by rw [List.length_set]; exact hi)]
  refine wsum_le (fun p _ => ?_) hp
  unfold oneF
  by_cases e : firstL (parseL p.1) L = (i : Int)
  · have e2 := firstL_set hk (parse_pos p.1) (show firstL (parseL p.1) L ≠ (k : Int) by omega)
    rw [if_pos e, if_pos (by rw [e2, e])]
    exact Int.le_refl _
  · rw [if_neg e]; split <;> omega
theorem counts_more_sum {ps : List Pl} {L : List Bool} {k : Nat} (hk : k < L.length) (hp : ∀ p ∈ ps, 1 ≤ p.2) : totI (countsL ps (L.set k true)) ≤ totI (countsL ps L) := by
  rw [counts_sum, counts_sum]
  refine wsum_le (fun p _ => ?_) hp
  unfold someF
  by_cases e : firstL (parseL p.1) L = (k : Int)
  · rw [if_pos (show 0 ≤ firstL (parseL p.1) L ∧ firstL (parseL p.1) L < (L.length : Int) by omega)]
    split <;> omega
  · rw [firstL_set hk (parse_pos p.1) e, List.length_set]
    exact Int.le_refl _
/-- **Counts of parts add up.** -/
theorem counts_parts (a b : List Pl) {L : List Bool} {i : Nat} (hi : i < L.length) : (countsL (a ++ b) L)[i]?.getD 0 = (countsL a L)[i]?.getD 0 + (countsL b L)[i]?.getD 0 := by
  rw [countsL_at _ _ hi, countsL_at _ _ hi, countsL_at _ _ hi, wsum_app]
theorem counts_merge (a b : List Pl) {L : List Bool} {i : Nat} (hi : i < L.length) : (countsL (mergeL a b) L)[i]?.getD 0 = (countsL a L)[i]?.getD 0 + (countsL b L)[i]?.getD 0 := by
  rw [countsL_at _ _ hi, countsL_at _ _ hi, countsL_at _ _ hi, wsum_merge]
theorem counts_put (a : List Pl) (t : ByteArray) (m : Int) {L : List Bool} {i : Nat} (hi : i < L.length) : (countsL (putL a t m) L)[i]?.getD 0 = (countsL a L)[i]?.getD 0 + oneF L i t * m := by
  rw [countsL_at _ _ hi, countsL_at _ _ hi, wsum_put]

/-- Piles fit n candidates. -/
def fitsB (ps : List Pl) (n : Int) : Bool := pilesB ps && (inB n 1 5 && ps.all fun p => validB (nums p.1) n)

end Go.Proofs.Ytojfpnjnbpeniab

namespace Go.Proofs.Ytojfpnjnbpeniab

/-- Lots are valid. -/
def lotsB (zs : List Int) : Bool := validB zs (zs.length : Int)
theorem lotsB_len {zs : List Int} (h : lotsB zs = true) : 1 ≤ zs.length ∧ zs.length ≤ 5 := by have := vB_mem h; omega
theorem lotsB_perm {zs ys : List Int} (h : lotsB zs = true) (hp : ys.Perm zs) : lotsB ys = true := by
  have hm := vB_mem h
  have hd := vB_nodup h
  unfold lotsB
  rw [hp.length_eq]
  exact vB_of hm.1 hm.2.1 (hp.nodup_iff.2 hd) (fun z hz => hm.2.2 z (hp.mem_iff.1 hz))

/-- The lots that a seed draws out of a list; 'f' bounds the draws. -/
def lotL : Nat → List Int → Nat → List Int
  | 0, _, _ => []
  | f + 1, rest, seed => if rest.length = 0 then [] else rest[seed % rest.length]?.getD 0 :: lotL f (rest.eraseIdx (seed % rest.length)) (seed / rest.length)
theorem lotL_nil (f seed : Nat) : lotL f [] seed = [] := by cases f <;> rfl
theorem lotL_step (f : Nat) (rest : List Int) (seed : Nat) (h : rest.length ≠ 0) : lotL (f + 1) rest seed = rest[seed % rest.length]?.getD 0 :: lotL f (rest.eraseIdx (seed % rest.length)) (seed / rest.length) := by rw [lotL, if_neg h]
theorem lotL_length : ∀ (f : Nat) (rest : List Int) (seed : Nat), rest.length ≤ f → (lotL f rest seed).length = rest.length
  | 0, rest, seed, h => by simp [lotL]; omega
  | f + 1, rest, seed, h => by
    by_cases h0 : rest.length = 0
    · rw [List.length_eq_zero_iff.1 h0, lotL_nil]
    · have hm := Nat.mod_lt seed (show 0 < rest.length by omega)
      have he : (rest.eraseIdx (seed % rest.length)).length = rest.length - 1 := by rw [List.length_eraseIdx, if_pos hm]
      rw [lotL_step f rest seed h0, List.length_cons, lotL_length f _ _ (by omega), he]; omega
theorem erase_perm : ∀ (l : List Int) (i : Nat) (h : i < l.length), (l[i] :: l.eraseIdx i).Perm l
  | [], i, h => by simp at h
  | a :: t, 0, _ => by simp
  | a :: t, i + 1, h => by
    have ih := erase_perm t i (by simpa using h)
    simp only [List.getElem_cons_succ, List.eraseIdx_cons_succ]
    exact (List.Perm.swap a _ _).trans (List.Perm.cons a ih)
theorem lotL_perm : ∀ (f : Nat) (rest : List Int) (seed : Nat), rest.length ≤ f → (lotL f rest seed).Perm rest
  | 0, rest, seed, h => by rw [List.length_eq_zero_iff.1 (show rest.length = 0 by omega)]; exact List.Perm.refl _
  | f + 1, rest, seed, h => by
    by_cases h0 : rest.length = 0
    · rw [List.length_eq_zero_iff.1 h0, lotL_nil]
    · have hm := Nat.mod_lt seed (show 0 < rest.length by omega)
      have he : (rest.eraseIdx (seed % rest.length)).length = rest.length - 1 := by rw [List.length_eraseIdx, if_pos hm]
      rw [lotL_step f rest seed h0]
      have h1 := lotL_perm f (rest.eraseIdx (seed % rest.length)) (seed / rest.length) (by omega)
      have e : rest[seed % rest.length]?.getD 0 = rest[seed % rest.length] := by simp [hm]
      rw [e]
      exact (List.Perm.cons _ h1).trans (erase_perm _ _ hm)

/-- The factorial. -/
def factN : Nat → Nat
  | 0 => 1
  | n + 1 => (n + 1) * factN n
/-- **Seeds repeat.** -/
theorem lotL_more : ∀ (f : Nat) (rest : List Int) (seed : Nat), rest.length ≤ f → lotL f rest (seed + factN rest.length) = lotL f rest seed
  | 0, rest, seed, h => rfl
  | f + 1, rest, seed, h => by
    by_cases h0 : rest.length = 0
    · rw [List.length_eq_zero_iff.1 h0, lotL_nil, lotL_nil]
    · obtain ⟨n, hn⟩ : ∃ n, rest.length = n + 1 := ⟨rest.length - 1, by omega⟩
      have hm := Nat.mod_lt seed (show 0 < rest.length by omega)
      have he : (rest.eraseIdx (seed % rest.length)).length = n := by rw [List.length_eraseIdx, if_pos hm]; omega
      have e1 : (seed + factN rest.length) % rest.length = seed % rest.length := by rw [hn, factN, Nat.add_mul_mod_self_left]
      have e2 : (seed + factN rest.length) / rest.length = seed / rest.length + factN n := by rw [hn, factN, Nat.add_mul_div_left _ _ (by omega)]
      rw [lotL_step f rest _ h0, lotL_step f rest _ h0, e1, e2]
      have := lotL_more f (rest.eraseIdx (seed % rest.length)) (seed / rest.length) (by omega)
      rw [he] at this
      rw [this]
/-- All candidates in ascending order. -/
def fromZero (n : Nat) : List Int := (List.range n).map fun (i : Nat) => (i : Int)
theorem fromZero_length (n : Nat) : (fromZero n).length = n := by simp [fromZero]
theorem fromZero_succ (n : Nat) : fromZero (n + 1) = fromZero n ++ [(n : Int)] := by simp [fromZero, List.range_succ]
theorem fromZero_lots {n : Nat} (h1 : 1 ≤ n) (h5 : n ≤ 5) : lotsB (fromZero n) = true := by
  unfold lotsB
  rw [fromZero_length]
  refine vB_of (by omega) (by omega) ?_ (fun z hz => ?_)
  · unfold fromZero List.Nodup
    rw [List.pairwise_map]
    exact List.Pairwise.imp (fun {a b} hab e => hab (by omega)) List.nodup_range
  · obtain ⟨i, hi, rfl⟩ := List.mem_map.1 hz
    have := List.mem_range.1 hi
    omega
/-- What LotsOf returns for n candidates. -/
def lotsOf (n seed : Nat) : List Int := lotL n (fromZero n) seed
theorem lotsOf_valid {n seed : Nat} (h1 : 1 ≤ n) (h5 : n ≤ 5) : lotsB (lotsOf n seed) = true := lotsB_perm (fromZero_lots h1 h5) (lotL_perm n _ seed (by rw [fromZero_length]; exact Nat.le_refl _))
theorem lotsOf_length (n seed : Nat) : (lotsOf n seed).length = n := by rw [lotsOf, lotL_length _ _ _ (by rw [fromZero_length]; exact Nat.le_refl _), fromZero_length]
theorem lotsOf_more (n seed : Nat) : lotsOf n (seed + factN n) = lotsOf n seed := by
  have := lotL_more n (fromZero n) seed (by rw [fromZero_length]; exact Nat.le_refl _)
  rwa [fromZero_length] at this
theorem lotsOf_mod (n seed : Nat) : lotsOf n seed = lotsOf n (seed % factN n) := by
  have h : ∀ q, lotsOf n (seed % factN n + q * factN n) = lotsOf n (seed % factN n) := fun q => by
    induction q with
    | zero => simp
    | succ q ih => rw [Nat.succ_mul, ← Nat.add_assoc, lotsOf_more, ih]
  have := h (seed / factN n)
  rwa [Nat.mul_comm, Nat.mod_add_div] at this
theorem lotsOf_head {n seed : Nat} (h1 : 1 ≤ n) : (lotsOf n seed)[0]?.getD 0 = ((seed % n : Nat) : Int) := by
  obtain ⟨k, rfl⟩ : ∃ k, n = k + 1 := ⟨n - 1, by omega⟩
  unfold lotsOf
  rw [lotL_step _ _ _ (by rw [fromZero_length]; omega), fromZero_length]
  have hm := Nat.mod_lt seed (show 0 < k + 1 by omega)
  simp [fromZero, hm]
/-- **Each order of two lots has a seed**: for each drawn order, one less than 120 has the first two exchanged. -/
theorem lots_swap_all : ∀ n, n < 6 → 2 ≤ n → ∀ s, s < factN n → ∃ q, q < 120 ∧ lotsOf n q = ((lotsOf n s)[1]?.getD 0) :: ((lotsOf n s)[0]?.getD 0) :: (lotsOf n s).drop 2 := by
  decide +kernel

/-- The first of the lots for whom 'some' is true, or -1. -/
def pickL : List Int → List Bool → Int
  | [], _ => -1
  | z :: t, L => if L[z.toNat]?.getD false = true then z else pickL t L

/-- The seal. -/
def sealV (seed secret : Int) : Int := (seed * 7919 + secret * 104729 + 12345) % 1000003
theorem small_mult {d c k m : Int} (hc : k * c = 1 + 1000003 * m) (hd : -999 ≤ d ∧ d ≤ 999) (h : (1000003 : Int) ∣ d * c) : d = 0 := by
  obtain ⟨q, hq⟩ := h
  have h1 : d = 1000003 * (k * q - m * d) := by
    have h2 : k * (d * c) = k * (1000003 * q) := by rw [hq]
    have h3 : k * (d * c) = d * (k * c) := by rw [← Int.mul_assoc, Int.mul_comm k d, Int.mul_assoc]
    rw [h3, hc, Int.mul_add, Int.mul_one] at h2
    have h4 : d * (1000003 * m) = 1000003 * (m * d) := by rw [Int.mul_left_comm, Int.mul_comm d m]
    have h5 : k * (1000003 * q) = 1000003 * (k * q) := by rw [Int.mul_left_comm]
    rw [h4, h5] at h2
    rw [Int.mul_sub]
    omega
  obtain ⟨r, hr⟩ : ∃ r, k * q - m * d = r := ⟨_, rfl⟩
  rw [hr] at h1
  omega
theorem lin_one (u v z k : Int) : u + z + k - (v + z + k) = u - v := by omega
theorem lin_two (u v z k : Int) : z + u + k - (z + v + k) = u - v := by omega
/-- **A sealed seed cannot be changed.** -/
theorem seal_seed {a b c : Int} (ha : 0 ≤ a ∧ a ≤ 999) (hb : 0 ≤ b ∧ b ≤ 999) (h : a ≠ b) : sealV a c ≠ sealV b c := by
  intro e
  have h1 := Int.dvd_of_emod_eq_zero (Int.emod_eq_emod_iff_emod_sub_eq_zero.1 e)
  have e2 := lin_one (a * 7919) (b * 7919) (c * 104729) 12345
  have e3 := e2.trans (Int.sub_mul a b 7919).symm
  have h2 : (1000003 : Int) ∣ (a - b) * 7919 := e3 ▸ h1
  clear e e2 e3 h1
  exact h (Int.sub_eq_zero.1 (small_mult (k := 658671) (m := 5216) (by decide) (by clear h2; omega) h2))
theorem seal_secret {a b c : Int} (ha : 0 ≤ a ∧ a ≤ 999) (hb : 0 ≤ b ∧ b ≤ 999) (h : a ≠ b) : sealV c a ≠ sealV c b := by
  intro e
  have h1 := Int.dvd_of_emod_eq_zero (Int.emod_eq_emod_iff_emod_sub_eq_zero.1 e)
  have e2 := lin_two (a * 104729) (b * 104729) (c * 7919) 12345
  have e3 := e2.trans (Int.sub_mul a b 104729).symm
  have h2 : (1000003 : Int) ∣ (a - b) * 104729 := e3 ▸ h1
  clear e e2 e3 h1
  exact h (Int.sub_eq_zero.1 (small_mult (k := 404531) (m := 42366) (by decide) (by clear h2; omega) h2))

end Go.Proofs.Ytojfpnjnbpeniab
