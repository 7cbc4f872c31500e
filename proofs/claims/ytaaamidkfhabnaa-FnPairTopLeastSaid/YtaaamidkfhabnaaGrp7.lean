/-
  A table of a call's own: rows of n cells, each in a block of its own. Of no function of the seat.
  A region that draws its order, whose last operations are one forced order and whose others only read: the others by the cheap steps of a quiet walk, in one world. No function of the seat.
  Lots, as lists: what they are, how a seed draws them, the first of some, the seal. Of no memory.
  The greatest of some counts, of several ones the one who comes first in the lots: who it is, that there is one alone, and with two candidates exchanged. Of no memory.
  The plurality, as lists: the winner, a ballot more, two candidates exchanged, the margin. Of no memory.
-/
import Derived.Test.YtaaamidkfhabnaaGrp6
import Derived.Deep.Onto
import Derived.Test.YtaaamidkfhabnaaBase
import Derived.BigQuiet
import Derived.StillTailTactics
import Derived.Test.YtaaamidkfhabnaaGrp1
import Derived.Test.YtaaamidkfhabnaaGrp2
namespace Go.Proofs.Ytaaamidkfhabnaa
open Go.RowKit

/-- The first k of len rows (of type R) are made: the j-th is block G j (capacity C j), its n cells (of type E) are F j. -/
structure Tb (E R : TypeId) (w : World) (base : Nat) (a : Option Addr) (len cap k n : Nat) (G C : Nat → Nat) (F : Nat → Nat → Value) : Prop where
  outer : ∃ V, w.ownsRow base R 1 (.slice a len cap) len V ∧ ∀ j, j < k → V[j]? = some (.slice (some ⟨G j, 0, none⟩) n (C j))
  inner : ∀ j, j < k → w.ownsRow base E 1 (.slice (some ⟨G j, 0, none⟩) n (C j)) n ((List.range n).map (F j))
  order : ∀ i j, i < j → j < k → G i < G j

theorem range_cell {n : Nat} (f : Nat → Value) {j : Nat} (h : j < n) : ((List.range n).map f)[j]? = some (f j) := by simp [h]
theorem owns_type {w : World} {base base' n n' c c' g : Nat} {E R : TypeId} {xs ys : List Value} (h : w.ownsRow base E 1 (.slice (some ⟨g, 0, none⟩) n c) n xs) (h' : w.ownsRow base' R 1 (.slice (some ⟨g, 0, none⟩) n' c') n' ys) : E = R := by
  rcases h.2 with ⟨e, _⟩ | ⟨g1, c1, cur1, e1, _, hg1, _⟩
  · simp at e
  · rcases h'.2 with ⟨e, _⟩ | ⟨g2, c2, cur2, e2, _, hg2, _⟩
    · simp at e
    · injection e1 with e1 _ _
      injection e2 with e2 _ _
      injection e1 with e1
      injection e1 with e1 _ _
      injection e2 with e2
      injection e2 with e2 _ _
      subst e1
      subst e2
      rw [hg1] at hg2
      injection hg2 with hg2
      injection hg2 with _ hg2 _

namespace Tb
variable {E R : TypeId} {w w' : World} {base len cap k n : Nat} {a : Option Addr} {G C : Nat → Nat} {F F' : Nat → Nat → Value}

theorem under (h : Tb E R w base a len cap k n G C F) (hb : Below w.heap.size w w') : Tb E R w' base a len cap k n G C F :=
  ⟨by obtain ⟨V, h1, h2⟩ := h.outer; exact ⟨V, owns_under h1 hb, h2⟩, fun j hj => owns_under (h.inner j hj) hb, h.order⟩
theorem lt (h : Tb E R w base a len cap k n G C F) {j : Nat} (hj : j < k) : base ≤ G j ∧ G j < w.heap.size := (h.inner j hj).lt (G j) rfl
theorem congr (h : Tb E R w base a len cap k n G C F) (he : ∀ i j, i < k → j < n → F i j = F' i j) : Tb E R w base a len cap k n G C F' :=
  ⟨h.outer, fun i hi => by
    have e : (List.range n).map (F' i) = (List.range n).map (F i) := List.map_congr_left (fun j hj => (he i j hi (List.mem_range.1 hj)).symm)
    rw [e]; exact h.inner i hi, h.order⟩
theorem mono {base' : Nat} (h : Tb E R w base a len cap k n G C F) (hb : base' ≤ base) : Tb E R w base' a len cap k n G C F :=
  ⟨by obtain ⟨V, h1, h2⟩ := h.outer; exact ⟨V, World.ownsRow.mono h1 hb, h2⟩, fun j hj => World.ownsRow.mono (h.inner j hj) hb, h.order⟩
theorem head (h : Tb E R w base a len cap k n G C F) (hl : 0 < len) : ∃ g, a = some ⟨g, 0, none⟩ ∧ base ≤ g ∧ g < w.heap.size ∧ len ≤ cap := by
  obtain ⟨V, h1, h2⟩ := h.outer
  rcases h1.2 with ⟨_, e⟩ | ⟨g, c, cur, e1, hb, hg, hc, _⟩
  · omega
  · injection e1 with e1 _ e3
    subst e3
    exact ⟨g, e1, hb, (Array.getElem?_eq_some_iff.1 hg).1, hc⟩
theorem row_cell {g : Nat} (h : Tb E R w base (some ⟨g, 0, none⟩) len cap k n G C F) {j : Nat} (hj : j < k) (hk : k ≤ len) : w.cell? ⟨g, j, none⟩ = some (.slice (some ⟨G j, 0, none⟩) n (C j)) := by
  obtain ⟨V, h1, h2⟩ := h.outer
  rw [h1.cellAt j (by omega)]; exact h2 j hj
theorem cell (h : Tb E R w base a len cap k n G C F) {x y : Nat} (hx : x < k) (hy : y < n) : w.cell? ⟨G x, y, none⟩ = some (F x y) := by
  rw [(h.inner x hx).cellAt y (by omega)]; exact range_cell _ hy
theorem frozen (h : Tb E R w base a len cap k n G C F) {x : Nat} (hx : x < k) (y : Nat) : w.frozen? ⟨G x, y, none⟩ = false := (h.inner x hx).frozenAt y
theorem ne (h : Tb E R w base a len cap k n G C F) {i j : Nat} (hi : i < k) (hj : j < k) (hne : i ≠ j) : G i ≠ G j := by
  rcases Nat.lt_or_gt_of_ne hne with g | g
  · have := h.order i j g hj; omega
  · have := h.order j i g hi; omega
theorem out_ne {g : Nat} (hER : E ≠ R) (h : Tb E R w base (some ⟨g, 0, none⟩) len cap k n G C F) {j : Nat} (hj : j < k) : G j ≠ g := by
  intro e
  obtain ⟨V, h1, h2⟩ := h.outer
  have h3 := h.inner j hj
  rw [e] at h3
  exact hER (owns_type h3 h1)

/-- A cell of a row is written. -/
theorem set (hER : E ≠ R) (h : Tb E R w base a len cap k n G C F) {x y : Nat} (hx : x < k) (hy : y < n) (v : Value) :
    Tb E R (w.setCell ⟨G x, y, none⟩ v) base a len cap k n G C (fun i j => if i = x ∧ j = y then v else F i j) ∧ w.grownBy (w.setCell ⟨G x, y, none⟩ v) (some (G x)) := by
  have hs := (h.inner x hx).stored y v
  refine ⟨⟨?_, fun j hj => ?_, h.order⟩, hs.2⟩
  · obtain ⟨V, h1, h2⟩ := h.outer
    refine ⟨V, h1.kept hs.2 ?_, h2⟩
    cases hb : (Value.slice a len cap).ownBlock with
    | none => exact .inl rfl
    | some b =>
      right
      intro e
      injection e with e
      cases a with
      | none => simp [Value.ownBlock] at hb
      | some ad =>
        have h0 := h1
        rcases h0.2 with ⟨e0, _⟩ | ⟨g, c, cur, e1, _, hg, _⟩
        · simp at e0
        · injection e1 with e1 _ _
          injection e1 with e1
          subst e1
          simp [Value.ownBlock] at hb
          exact out_ne hER h hx (by omega)
  · by_cases e : j = x
    · subst e
      have e2 : (List.range n).map (fun y' => if j = j ∧ y' = y then v else F j y') = ((List.range n).map (F j)).set y v := by
        apply List.ext_getElem
        · simp
        · intro i h1 h2
          simp only [List.getElem_map, List.getElem_range, List.getElem_set, true_and]
          by_cases e3 : i = y
          · subst e3; simp
          · rw [if_neg e3, if_neg (fun e4 => e3 e4.symm)]
      rw [e2]; exact hs.1
    · have e2 : (List.range n).map (fun y' => if j = x ∧ y' = y then v else F j y') = (List.range n).map (F j) := by
        refine List.map_congr_left (fun i _ => ?_)
        rw [if_neg (fun g => e g.1)]
      rw [e2]
      exact (h.inner j hj).kept hs.2 (.inr (by simp [Value.ownBlock]; exact h.ne hj hx e))

/-- A new row is stored. -/
theorem store {g g2 c2 : Nat} {f : Nat → Value} (hER : E ≠ R) (h : Tb E R w base (some ⟨g, 0, none⟩) len cap k n G C F) (hk : k < len) (hx : w.ownsRow base E 1 (.slice (some ⟨g2, 0, none⟩) n c2) n ((List.range n).map f)) (hlast : ∀ j, j < k → G j < g2) :
    Tb E R (w.setCell ⟨g, k, none⟩ (.slice (some ⟨g2, 0, none⟩) n c2)) base (some ⟨g, 0, none⟩) len cap (k + 1) n (fun j => if j = k then g2 else G j) (fun j => if j = k then c2 else C j) (fun j => if j = k then f else F j) := by
  obtain ⟨V, h1, h2⟩ := h.outer
  have hs := h1.stored k (.slice (some ⟨g2, 0, none⟩) n c2)
  have hV : V.length = len := by have := h1.1; omega
  have hg2 : g2 ≠ g := fun e => by subst e; exact hER (owns_type hx h1)
  refine ⟨⟨_, hs.1, fun j hj => ?_⟩, fun j hj => ?_, fun i j hij hj => ?_⟩
  · by_cases e : j = k
    · subst e; simp only [if_true]; rw [List.getElem?_set_self (by omega)]
    · simp only [if_neg e]; rw [List.getElem?_set_ne (by omega)]; exact h2 j (by omega)
  · by_cases e : j = k
    · subst e; simp only [if_true]; exact hx.kept hs.2 (.inr (by simp [Value.ownBlock]; exact hg2))
    · simp only [if_neg e]; exact (h.inner j (by omega)).kept hs.2 (.inr (by simp [Value.ownBlock]; exact out_ne hER h (by omega)))
  · by_cases e : j = k
    · subst e
      have e2 : ¬ i = j := by omega
      simp only [if_neg e2, if_true]
      exact hlast i hij
    · have e2 : ¬ i = k := by omega
      simp only [if_neg e2, if_neg e]
      exact h.order i j hij (by omega)

/-- A new row is appended. -/
theorem push {a' : Option Addr} {cap' g2 c2 : Nat} {f : Nat → Value} {V : List Value} (hER : E ≠ R) (h : Tb E R w base a k cap k n G C F) (h1 : w.ownsRow base R 1 (.slice a k cap) k V) (h2 : ∀ j, j < k → V[j]? = some (.slice (some ⟨G j, 0, none⟩) n (C j)))
    (hx : w.ownsRow base E 1 (.slice (some ⟨g2, 0, none⟩) n c2) n ((List.range n).map f)) (hlast : ∀ j, j < k → G j < g2)
    (ho : w'.ownsRow base R 1 (.slice a' (k + 1) cap') (k + 1) (V ++ [.slice (some ⟨g2, 0, none⟩) n c2])) (hg : w.grownBy w' (Value.slice a k cap).ownBlock) :
    Tb E R w' base a' (k + 1) cap' (k + 1) n (fun j => if j = k then g2 else G j) (fun j => if j = k then c2 else C j) (fun j => if j = k then f else F j) := by
  have hV : V.length = k := by have := h1.1; omega
  have hown : ∀ gj cj f', w.ownsRow base E 1 (.slice (some ⟨gj, 0, none⟩) n cj) n ((List.range n).map f') → w'.ownsRow base E 1 (.slice (some ⟨gj, 0, none⟩) n cj) n ((List.range n).map f') := by
    intro gj cj f' h3
    refine h3.kept hg ?_
    right
    intro e
    cases a with
    | none => simp [Value.ownBlock] at e
    | some ad =>
      rcases h1.2 with ⟨e0, _⟩ | ⟨g, c, cur, e1, _, hg', _⟩
      · simp at e0
      · injection e1 with e1 _ _
        injection e1 with e1
        subst e1
        simp [Value.ownBlock] at e
        subst e
        exact hER (owns_type h3 h1)
  refine ⟨⟨_, ho, fun j hj => ?_⟩, fun j hj => ?_, fun i j hij hj => ?_⟩
  · by_cases e : j = k
    · subst e; simp only [if_true]; rw [List.getElem?_append_right (by omega), hV, Nat.sub_self]; rfl
    · simp only [if_neg e]; rw [List.getElem?_append_left (by omega)]; exact h2 j (by omega)
  · by_cases e : j = k
    · subst e; simp only [if_true]; exact hown _ _ _ hx
    · simp only [if_neg e]; exact hown _ _ _ (h.inner j (by omega))
  · by_cases e : j = k
    · subst e
      have e2 : ¬ i = j := by omega
      simp only [if_neg e2, if_true]
      exact hlast i hij
    · have e2 : ¬ i = k := by omega
      simp only [if_neg e2, if_neg e]
      exact h.order i j hij (by omega)
/-- No row yet. -/
theorem start {V : List Value} (h : w.ownsRow base R 1 (.slice a len cap) len V) : Tb E R w base a len cap 0 n G C F :=
  ⟨⟨V, h, fun j hj => by omega⟩, fun j hj => by omega, fun i j _ hj => by omega⟩
end Tb

/-- The rows of a table. -/
def tabL {α : Type} (n : Nat) (f : Nat → Nat → α) : List (List α) := (List.range n).map fun x => (List.range n).map (f x)
theorem tabL_length {α : Type} (n : Nat) (f : Nat → Nat → α) : (tabL n f).length = n := by simp [tabL]
theorem tabL_row {α : Type} (n : Nat) (f : Nat → Nat → α) {x : Nat} (hx : x < n) : (tabL n f)[x]?.getD [] = (List.range n).map (f x) := by simp [tabL, hx]
theorem tabL_congr {α : Type} {n : Nat} {f f' : Nat → Nat → α} (h : ∀ x y, x < n → y < n → f x y = f' x y) : tabL n f = tabL n f' :=
  List.map_congr_left fun x hx => List.map_congr_left fun y hy => h x y (List.mem_range.1 hx) (List.mem_range.1 hy)

/-- What reads as a table of ints. -/
def IsTab (w : World) (a : Option Addr) (len cap n : Nat) (f : Nat → Nat → Int) : Prop := IsRows w a len cap (tabL n f)
theorem Tb.isRows {E R : TypeId} {w : World} {base cap n : Nat} {a : Option Addr} {G C : Nat → Nat} {F : Nat → Nat → Value} {f : Nat → Nat → Int} (h : Tb E R w base a n cap n n G C F) (hn : n ≤ 1048600) (hF : ∀ i j, i < n → j < n → F i j = .int .i64 (f i j)) : IsRows w a n cap (tabL n f) := by
  refine ⟨tabL_length n f, ?_, hn, fun hl => ?_⟩
  · rcases Nat.eq_zero_or_pos n with e | e
    · omega
    · obtain ⟨g, _, _, _, h4⟩ := h.head e; exact h4
  obtain ⟨g, rfl, hb, hg, hc⟩ := h.head hl
  refine ⟨g, 0, rfl, hg, fun j hj => ⟨some ⟨G j, 0, none⟩, n, C j, by rw [Nat.zero_add]; exact h.row_cell hj (Nat.le_refl _), ?_⟩⟩
  rw [tabL_row n f hj]
  have hin := h.inner j hj
  refine ⟨by simp, ?_, hn, fun _ => ⟨G j, 0, rfl, (h.lt hj).2, fun i hi => ?_⟩⟩
  · rcases hin.2 with ⟨e0, _⟩ | ⟨g', c', cur, e1, _, _, h3, _⟩
    · simp at e0
    · injection e1 with _ _ e3; omega
  · rw [Nat.zero_add, h.cell hj hi, hF j i hj hi]; simp [hi]

end Go.Proofs.Ytaaamidkfhabnaa

namespace Go.Proofs.Ytaaamidkfhabnaa
open Go.RowKit

theorem still_of_quiet {P : Program} {ops : Array Oper} {w0 : World} {Q : Act → Prop} : ∀ (l : List Oper) (a : Act), wpQuiet P ops (fun w' => w' = w0) Q l a → wpStill P ops w0 Q l a
  | [], _, h => h
  | o :: rest, a, h => by
    have ih := still_of_quiet (P := P) (ops := ops) (w0 := w0) (Q := Q) rest
    simp only [wpQuiet] at h
    simp only [wpStill]
    by_cases hw : Region.wanted o (yielded ops a.tmps) = true
    · rw [if_pos hw] at h ⊢
      obtain ⟨v, h1, h2⟩ := h
      have h3 := h1 w0 rfl
      unfold Oper.quietAt at h3
      unfold Oper.still
      generalize (execOp a.eval o).run P w0 = r at h3
      cases r with
      | ok n w' =>
        cases n <;> simp only [Oper.quietUpon] at h3 <;> simp only [Oper.stillUpon]
        case value u =>
          obtain ⟨e1, e2⟩ := h3
          subst e2
          exact ⟨e1, ih _ h2⟩
        case skip =>
          obtain ⟨e1, e2⟩ := h3
          subst e2
          exact ⟨e1, ih _ h2⟩
        case enter f args =>
          obtain ⟨e1, e2⟩ := h3
          exact ⟨e1, v, e2, ih _ h2⟩
      | halt x w' => simp only [Oper.quietUpon] at h3
    · rw [if_neg hw] at h ⊢
      exact ih _ h

/-- **The others by a quiet walk, then the tail.** -/
theorem region_quiet_tail {P : Program} {id : Nat} {Q : Exit → Act → World → Prop} {a : Act} {w : World} {l : List Oper} (n : Nat) (hm : P.follows .mixedOrders = true) (hB : Region.lexTailB .any l.toArray n = true)
    (h : wpQuiet P l.toArray (fun w' => w' = w.drew) (fun a' => wpList P l.toArray Q (l.drop n) a' w.drew) (l.take n) a) : (Code.region id l.toArray true).wp P Q a w :=
  wp_region_still_tail n hm hB (still_of_quiet _ _ h)

end Go.Proofs.Ytaaamidkfhabnaa

namespace Go.Proofs.Ytaaamidkfhabnaa

/-- Lots are valid. -/
def lotsB (zs : List Int) : Bool := validB zs (zs.length : Int)
theorem lotsB_len {zs : List Int} (h : lotsB zs = true) : 1 ≤ zs.length ∧ zs.length ≤ 5 := by have := vB_mem h; omega
theorem lotsB_perm {zs ys : List Int} (h : lotsB zs = true) (hp : ys.Perm zs) : lotsB ys = true := by
  have hm := vB_mem h
  have hd := vB_nodup h
  unfold lotsB
  rw [hp.length_eq]
  exact vB_of hm.1 hm.2.1 (hp.nodup_iff.2 hd) (fun z hz => hm.2.2 z (hp.mem_iff.1 hz))

/-- The lots that a seed draws out of a list; 'f' bounds the draws. -/
def lotL : Nat → List Int → Nat → List Int
  | 0, _, _ => []
  | f + 1, rest, seed => if rest.length = 0 then [] else rest[seed % rest.length]?.getD 0 :: lotL f (rest.eraseIdx (seed % rest.length)) (seed / rest.length)
theorem lotL_nil (f seed : Nat) : lotL f [] seed = [] := by cases f <;> rfl
theorem lotL_step (f : Nat) (rest : List Int) (seed : Nat) (h : rest.length ≠ 0) : lotL (f + 1) rest seed = rest[seed % rest.length]?.getD 0 :: lotL f (rest.eraseIdx (seed % rest.length)) (seed / rest.length) := by rw [lotL, if_neg h]
theorem lotL_length : ∀ (f : Nat) (rest : List Int) (seed : Nat), rest.length ≤ f → (lotL f rest seed).length = rest.length
  | 0, rest, seed, h => by simp [lotL]; omega
  | f + 1, rest, seed, h => by
    by_cases h0 : rest.length = 0
    · rw [List.length_eq_zero_iff.1 h0, lotL_nil]
    · have hm := Nat.mod_lt seed (show 0 < rest.length by omega)
      have he : (rest.eraseIdx (seed % rest.length)).length = rest.length - 1 := by rw [List.length_eraseIdx, if_pos hm]
      rw [lotL_step f rest seed h0, List.length_cons, lotL_length f _ _ (by omega), he]; omega
theorem erase_perm : ∀ (l : List Int) (i : Nat) (h : i < l.length), (l[i] :: l.eraseIdx i).Perm l
  | [], i, h => by simp at h
  | a :: t, 0, _ => by simp
  | a :: t, i + 1, h => by
    have ih := erase_perm t i (by simpa using h)
    simp only [List.getElem_cons_succ, List.eraseIdx_cons_succ]
    exact (List.Perm.swap a _ _).trans (List.Perm.cons a ih)
theorem lotL_perm : ∀ (f : Nat) (rest : List Int) (seed : Nat), rest.length ≤ f → (lotL f rest seed).Perm rest
  | 0, rest, seed, h => by rw [List.length_eq_zero_iff.1 (show rest.length = 0 by omega)]; exact List.Perm.refl _
  | f + 1, rest, seed, h => by
    by_cases h0 : rest.length = 0
    · rw [List.length_eq_zero_iff.1 h0, lotL_nil]
    · have hm := Nat.mod_lt seed (show 0 < rest.length by omega)
      have he : (rest.eraseIdx (seed % rest.length)).length = rest.length - 1 := by rw [List.length_eraseIdx, if_pos hm]
      rw [lotL_step f rest seed h0]
      have h1 := lotL_perm f (rest.eraseIdx (seed % rest.length)) (seed / rest.length) (by omega)
      have e : rest[seed % rest.length]?.getD 0 = rest[seed % rest.length] := by simp [hm]
      rw [e]
      exact (List.Perm.cons _ h1).trans (erase_perm _ _ hm)

/-- The factorial. -/
def factN : Nat → Nat
  | 0 => 1
  | n + 1 => (n + 1) * factN n
/-- **Seeds repeat.** -/
theorem lotL_more : ∀ (f : Nat) (rest : List Int) (seed : Nat), rest.length ≤ f → lotL f rest (seed + factN rest.length) = lotL f rest seed
  | 0, rest, seed, h => rfl
  | f + 1, rest, seed, h => by
    by_cases h0 : rest.length = 0
    · rw [List.length_eq_zero_iff.1 h0, lotL_nil, lotL_nil]
    · obtain ⟨n, hn⟩ : ∃ n, rest.length = n + 1 := ⟨rest.length - 1, by omega⟩
      have hm := Nat.mod_lt seed (show 0 < rest.length by omega)
      have he : (rest.eraseIdx (seed % rest.length)).length = n := by rw [List.length_eraseIdx, if_pos hm]; omega
      have e1 : (seed + factN rest.length) % rest.length = seed % rest.length := by rw [hn, factN, Nat.add_mul_mod_self_left]
      have e2 : (seed + factN rest.length) / rest.length = seed / rest.length + factN n := by rw [hn, factN, Nat.add_mul_div_left _ _ (by omega)]
      rw [lotL_step f rest _ h0, lotL_step f rest _ h0, e1, e2]
      have := lotL_more f (rest.eraseIdx (seed % rest.length)) (seed / rest.length) (by omega)
      rw [he] at this
      rw [this]
/-- All candidates in ascending order. -/
def fromZero (n : Nat) : List Int := (List.range n).map fun (i : Nat) => (i : Int)
theorem fromZero_length (n : Nat) : (fromZero n).length = n := by simp [fromZero]
theorem fromZero_succ (n : Nat) : fromZero (n + 1) = fromZero n ++ [(n : Int)] := by simp [fromZero, List.range_succ]
theorem fromZero_lots {n : Nat} (h1 : 1 ≤ n) (h5 : n ≤ 5) : lotsB (fromZero n) = true := by
  unfold lotsB
  rw [fromZero_length]
  refine vB_of (by omega) (by omega) ?_ (fun z hz => ?_)
  · unfold fromZero List.Nodup
    rw [List.pairwise_map]
    exact List.Pairwise.imp (fun {a b} hab e => hab (by omega)) List.nodup_range
  · obtain ⟨i, hi, rfl⟩ := List.mem_map.1 hz
    have := List.mem_range.1 hi
    omega
/-- What LotsOf returns for n candidates. -/
def lotsOf (n seed : Nat) : List Int := lotL n (fromZero n) seed
theorem lotsOf_valid {n seed : Nat} (h1 : 1 ≤ n) (h5 : n ≤ 5) : lotsB (lotsOf n seed) = true := lotsB_perm (fromZero_lots h1 h5) (lotL_perm n _ seed (by rw [fromZero_length]; exact Nat.le_refl _))
theorem lotsOf_length (n seed : Nat) : (lotsOf n seed).length = n := by rw [lotsOf, lotL_length _ _ _ (by rw [fromZero_length]; exact Nat.le_refl _), fromZero_length]
theorem lotsOf_more (n seed : Nat) : lotsOf n (seed + factN n) = lotsOf n seed := by
  have := lotL_more n (fromZero n) seed (by rw [fromZero_length]; exact Nat.le_refl _)
  rwa [fromZero_length] at this
theorem lotsOf_mod (n seed : Nat) : lotsOf n seed = lotsOf n (seed % factN n) := by
  have h : ∀ q, lotsOf n (seed % factN n + q * factN n) = lotsOf n (seed % factN n) := fun q => by
    induction q with
    | zero => simp
    | succ q ih => rw [Nat.succ_mul, ← Nat.add_assoc, lotsOf_more, ih]
  have := h (seed / factN n)
  rwa [Nat.mul_comm, Nat.mod_add_div] at this
theorem lotsOf_head {n seed : Nat} (h1 : 1 ≤ n) : (lotsOf n seed)[0]?.getD 0 = ((seed % n : Nat) : Int) := by
  obtain ⟨k, rfl⟩ : ∃ k, n = k + 1 := ⟨n - 1, by omega⟩
  unfold lotsOf
  rw [lotL_step _ _ _ (by rw [fromZero_length]; omega), fromZero_length]
  have hm := Nat.mod_lt seed (show 0 < k + 1 by omega)
  simp [fromZero, hm]
/-- **Each order of two lots has a seed**: for each drawn order, one less than 120 has the first two exchanged. -/
theorem lots_swap_all : ∀ n, n < 6 → 2 ≤ n → ∀ s, s < factN n → ∃ q, q < 120 ∧ lotsOf n q = ((lotsOf n s)[1]?.getD 0) :: ((lotsOf n s)[0]?.getD 0) :: (lotsOf n s).drop 2 := by
  decide +kernel

/-- The first of the lots for whom 'some' is true, or -1. -/
def pickL : List Int → List Bool → Int
  | [], _ => -1
  | z :: t, L => if L[z.toNat]?.getD false = true then z else pickL t L

/-- The seal. -/
def sealV (seed secret : Int) : Int := (seed * 7919 + secret * 104729 + 12345) % 1000003
theorem small_mult {d c k m : Int} (hc : k * c = 1 + 1000003 * m) (hd : -999 ≤ d ∧ d ≤ 999) (h : (1000003 : Int) ∣ d * c) : d = 0 := by
  obtain ⟨q, hq⟩ := h
  have h1 : d = 1000003 * (k * q - m * d) := by
    have h2 : k * (d * c) = k * (1000003 * q) := by rw [hq]
    have h3 : k * (d * c) = d * (k * c) := by rw [← Int.mul_assoc, Int.mul_comm k d, Int.mul_assoc]
    rw [h3, hc, Int.mul_add, Int.mul_one] at h2
    have h4 : d * (1000003 * m) = 1000003 * (m * d) := by rw [Int.mul_left_comm, Int.mul_comm d m]
    have h5 : k * (1000003 * q) = 1000003 * (k * q) := by rw [Int.mul_left_comm]
    rw [h4, h5] at h2
    rw [Int.mul_sub]
    omega
  obtain ⟨r, hr⟩ : ∃ r, k * q - m * d = r := ⟨_, rfl⟩
  rw [hr] at h1
  omega
theorem lin_one (u v z k : Int) : u + z + k - (v + z + k) = u - v := by omega
theorem lin_two (u v z k : Int) : z + u + k - (z + v + k) = u - v := by omega
/-- **A sealed seed cannot be changed.** -/
theorem seal_seed {a b c : Int} (ha : 0 ≤ a ∧ a ≤ 999) (hb : 0 ≤ b ∧ b ≤ 999) (h : a ≠ b) : sealV a c ≠ sealV b c := by
  intro e
  have h1 := Int.dvd_of_emod_eq_zero (Int.emod_eq_emod_iff_emod_sub_eq_zero.1 e)
  have e2 := lin_one (a * 7919) (b * 7919) (c * 104729) 12345
  have e3 := e2.trans (Int.sub_mul a b 7919).symm
  have h2 : (1000003 : Int) ∣ (a - b) * 7919 := e3 ▸ h1
  clear e e2 e3 h1
  exact h (Int.sub_eq_zero.1 (small_mult (k := 658671) (m := 5216) (by decide) (by clear h2; omega) h2))
theorem seal_secret {a b c : Int} (ha : 0 ≤ a ∧ a ≤ 999) (hb : 0 ≤ b ∧ b ≤ 999) (h : a ≠ b) : sealV c a ≠ sealV c b := by
  intro e
  have h1 := Int.dvd_of_emod_eq_zero (Int.emod_eq_emod_iff_emod_sub_eq_zero.1 e)
  have e2 := lin_two (a * 104729) (b * 104729) (c * 7919) 12345
  have e3 := e2.trans (Int.sub_mul a b 104729).symm
  have h2 : (1000003 : Int) ∣ (a - b) * 104729 := e3 ▸ h1
  clear e e2 e3 h1
  exact h (Int.sub_eq_zero.1 (small_mult (k := 404531) (m := 42366) (by decide) (by clear h2; omega) h2))

end Go.Proofs.Ytaaamidkfhabnaa

namespace Go.Proofs.Ytaaamidkfhabnaa

/-- The greatest of the first k counts of some, or -1. -/
def bestS (c : List Int) (s : List Bool) (k : Nat) : Int := (List.range k).foldl (fun (b : Int) (i : Nat) => if s[i]?.getD false = true then max b (c[i]?.getD 0) else b) (-1)
theorem bestS_zero (c : List Int) (s : List Bool) : bestS c s 0 = -1 := rfl
theorem bestS_succ (c : List Int) (s : List Bool) (k : Nat) : bestS c s (k + 1) = if s[k]?.getD false = true then max (bestS c s k) (c[k]?.getD 0) else bestS c s k := by
  simp [bestS, List.range_succ]
theorem bestS_ge {c : List Int} {s : List Bool} {k i : Nat} (h : i < k) (hs : s[i]?.getD false = true) : c[i]?.getD 0 ≤ bestS c s k := by
  induction k with
  | zero => omega
  | succ k ih =>
    rw [bestS_succ]
    by_cases e : i = k
    · subst e; rw [if_pos hs]; omega
    · have := ih (by omega)
      split <;> omega
theorem bestS_hit (c : List Int) (s : List Bool) (k : Nat) : bestS c s k = -1 ∨ ∃ i, i < k ∧ s[i]?.getD false = true ∧ c[i]?.getD 0 = bestS c s k := by
  induction k with
  | zero => exact .inl rfl
  | succ k ih =>
    rw [bestS_succ]
    by_cases hs : s[k]?.getD false = true
    · rw [if_pos hs]
      rcases ih with ih | ⟨i, hi, h1, h2⟩
      · by_cases g : c[k]?.getD 0 ≤ -1
        · left; omega
        · right; exact ⟨k, by omega, hs, by omega⟩
      · by_cases g : c[k]?.getD 0 ≤ bestS c s k
        · right; exact ⟨i, by omega, h1, by omega⟩
        · right; exact ⟨k, by omega, hs, by omega⟩
    · rw [if_neg hs]
      rcases ih with ih | ⟨i, hi, h1, h2⟩
      · exact .inl ih
      · exact .inr ⟨i, by omega, h1, h2⟩
/-- Who has the greatest of some counts. -/
def mostL (c : List Int) (s : List Bool) : List Bool := (List.range c.length).map fun i => s[i]?.getD false && (c[i]?.getD 0 == bestS c s c.length)
theorem mostL_length (c : List Int) (s : List Bool) : (mostL c s).length = c.length := by simp [mostL]
theorem mostL_at {c : List Int} {s : List Bool} {i : Nat} (h : i < c.length) : (mostL c s)[i]?.getD false = true ↔ s[i]?.getD false = true ∧ c[i]?.getD 0 = bestS c s c.length := by
  simp [mostL, h]

/-- The first one of some in an order. -/
theorem pickL_spec {l : List Int} {L : List Bool} (h : ∃ z ∈ l, L[z.toNat]?.getD false = true) : pickL l L ∈ l ∧ L[(pickL l L).toNat]?.getD false = true ∧ ∀ u ∈ l, L[u.toNat]?.getD false = true → l.idxOf (pickL l L) ≤ l.idxOf u := by
  induction l with
  | nil => obtain ⟨z, hz, _⟩ := h; cases hz
  | cons a t ih =>
    unfold pickL
    by_cases ha : L[a.toNat]?.getD false = true
    · rw [if_pos ha]
      exact ⟨by simp, ha, fun u _ _ => by simp [List.idxOf_cons]⟩
    · rw [if_neg ha]
      obtain ⟨z, hz, hzL⟩ := h
      have hz' : z ∈ t := by
        rcases List.mem_cons.1 hz with e | e
        · subst e; exact absurd hzL ha
        · exact e
      obtain ⟨i1, i2, i3⟩ := ih ⟨z, hz', hzL⟩
      refine ⟨by simp [i1], i2, fun u hu huL => ?_⟩
      have hau : ¬ a = u := fun e => ha (by rw [e]; exact huL)
      have hap : ¬ a = pickL t L := fun e => ha (by rw [e]; exact i2)
      have hu' : u ∈ t := by
        rcases List.mem_cons.1 hu with e | e
        · exact absurd e.symm hau
        · exact e
      have := i3 u hu' huL
      rw [List.idxOf_cons, List.idxOf_cons]
      simp only [beq_eq_false_iff_ne.2 hau, beq_eq_false_iff_ne.2 hap, cond_false]
      omega

/-- **w has the greatest of some counts**, and comes first in the lots among those who have as many. -/
def IsWin (c : List Int) (s : List Bool) (lots : List Int) (w : Int) : Prop :=
  w ∈ lots ∧ s[w.toNat]?.getD false = true ∧ ∀ i ∈ lots, s[i.toNat]?.getD false = true → c[i.toNat]?.getD 0 < c[w.toNat]?.getD 0 ∨ (c[i.toNat]?.getD 0 = c[w.toNat]?.getD 0 ∧ lots.idxOf w ≤ lots.idxOf i)
theorem idxOf_inj {l : List Int} {a b : Int} (ha : a ∈ l) (h : l.idxOf a = l.idxOf b) : a = b := by
  induction l with
  | nil => cases ha
  | cons z t ih =>
    rw [List.idxOf_cons, List.idxOf_cons] at h
    by_cases h1 : z = a
    · by_cases h2 : z = b
      · exact h1.symm.trans h2
      · simp only [beq_iff_eq.2 h1, beq_eq_false_iff_ne.2 h2, cond_true, cond_false] at h; omega
    · by_cases h2 : z = b
      · simp only [beq_eq_false_iff_ne.2 h1, beq_iff_eq.2 h2, cond_true, cond_false] at h; omega
      · simp only [beq_eq_false_iff_ne.2 h1, beq_eq_false_iff_ne.2 h2, cond_false] at h
        refine ih ?_ (by omega)
        rcases List.mem_cons.1 ha with e | e
        · exact absurd e.symm h1
        · exact e
/-- There is one alone. -/
theorem win_one {c : List Int} {s : List Bool} {lots : List Int} {v w : Int} (hv : IsWin c s lots v) (hw : IsWin c s lots w) : v = w := by
  obtain ⟨v1, v2, v3⟩ := hv
  obtain ⟨w1, w2, w3⟩ := hw
  have a := v3 w w1 w2
  have b := w3 v v1 v2
  exact idxOf_inj v1 (by omega)
theorem lots_mem {lots : List Int} (h : lotsB lots = true) {i : Nat} (hi : i < lots.length) : (i : Int) ∈ lots := by
  have hm := vB_mem h
  have hd := vB_nodup h
  by_cases e : (i : Int) ∈ lots
  · exact e
  · have hnd : ((i : Int) :: lots).Nodup := List.nodup_cons.2 ⟨e, hd⟩
    have := few_of lots.length ((i : Int) :: lots) hnd (fun z hz => by
      rcases List.mem_cons.1 hz with g | g
      · subst g; omega
      · exact hm.2.2 z g)
    simp at this
    omega
/-- **The pick is the one.** -/
theorem win_pick {c : List Int} {s : List Bool} {lots : List Int} (hl : lotsB lots = true) (hc : c.length = lots.length) (h0 : ∀ i, i < c.length → 0 ≤ c[i]?.getD 0) (hs : ∃ i, i < c.length ∧ s[i]?.getD false = true) : IsWin c s lots (pickL lots (mostL c s)) := by
  have hm := vB_mem hl
  have hN : ∀ z ∈ lots, z.toNat < c.length := fun z hz => by have := hm.2.2 z hz; omega
  obtain ⟨j, hj, hsj⟩ := hs
  have hb := bestS_hit c s c.length
  have hge := bestS_ge (c := c) hj hsj
  have h0j := h0 j hj
  rcases hb with hb | ⟨i, hi, h1, h2⟩
  · omega
  · obtain ⟨p1, p2, p3⟩ := pickL_spec (l := lots) (L := mostL c s) ⟨(i : Int), lots_mem hl (by omega), by rw [Int.toNat_natCast, mostL_at hi]; exact ⟨h1, h2⟩⟩
    have hp := (mostL_at (hN _ p1)).1 p2
    refine ⟨p1, hp.1, fun u hu hsu => ?_⟩
    have hg := bestS_ge (c := c) (hN u hu) hsu
    by_cases e : c[u.toNat]?.getD 0 = bestS c s c.length
    · exact .inr ⟨by omega, p3 u hu ((mostL_at (hN u hu)).2 ⟨hsu, e⟩)⟩
    · exact .inl (by omega)

/-- x comes before y. -/
def befL : List Int → Int → Int → Bool
  | [], _, _ => false
  | z :: t, x, y => if z = x ∨ z = y then decide (z = x) && decide (x ≠ y) else befL t x y
theorem befL_iff {l : List Int} {x y : Int} (hx : x ∈ l) : befL l x y = true ↔ l.idxOf x < l.idxOf y := by
  induction l with
  | nil => cases hx
  | cons z t ih =>
    unfold befL
    rw [List.idxOf_cons, List.idxOf_cons]
    by_cases h1 : z = x
    · by_cases h2 : z = y
      · simp [h1, h1.symm.trans h2]
      · rw [if_pos (.inl h1)]
        simp only [beq_iff_eq.2 h1, beq_eq_false_iff_ne.2 h2, cond_true, cond_false]
        simp [h1, show ¬ x = y from fun e => h2 (h1.trans e)]
    · have hx' : x ∈ t := by
        rcases List.mem_cons.1 hx with e | e
        · exact absurd e.symm h1
        · exact e
      by_cases h2 : z = y
      · rw [if_pos (.inr h2)]
        simp only [beq_eq_false_iff_ne.2 h1, beq_iff_eq.2 h2, cond_true, cond_false]
        simp [h1]
      · rw [if_neg (by rintro (e | e); exact h1 e; exact h2 e), ih hx']
        simp only [beq_eq_false_iff_ne.2 h1, beq_eq_false_iff_ne.2 h2, cond_false]
        omega
/-- **Nobody has more than the winner**; who has as many doesn't come before. -/
theorem win_most {c : List Int} {s : List Bool} {lots : List Int} {w : Int} (hw : IsWin c s lots w) {k : Int} (hk : k ∈ lots) (hs : s[k.toNat]?.getD false = true) : c[k.toNat]?.getD 0 ≤ c[w.toNat]?.getD 0 ∧ (c[k.toNat]?.getD 0 = c[w.toNat]?.getD 0 → befL lots k w = false) := by
  have := hw.2.2 k hk hs
  refine ⟨by omega, fun e => ?_⟩
  cases hb : befL lots k w
  · rfl
  · have := (befL_iff hk).1 hb
    omega

/-! ### Two candidates exchanged. -/
theorem swapC_inj {x y a b : Int} (h : swapC x y a = swapC x y b) : a = b := by
  have := congrArg (swapC x y) h
  rwa [swapC_twice, swapC_twice] at this
theorem idxOf_turn (x y : Int) (l : List Int) (z : Int) : (turnB x y l).idxOf (swapC x y z) = l.idxOf z := by
  unfold turnB
  induction l with
  | nil => rfl
  | cons a t ih =>
    rw [List.map_cons, List.idxOf_cons, List.idxOf_cons, ih]
    by_cases e : a = z
    · simp [e]
    · have : ¬ swapC x y a = swapC x y z := fun g => e (swapC_inj g)
      simp only [beq_eq_false_iff_ne.2 e, beq_eq_false_iff_ne.2 this]
/-- **Candidates are treated alike.** -/
theorem win_turn {c c' : List Int} {s s' : List Bool} {lots : List Int} {w x y : Int} (hw : IsWin c s lots w) (hc : ∀ z ∈ lots, c'[(swapC x y z).toNat]?.getD 0 = c[z.toNat]?.getD 0) (hs : ∀ z ∈ lots, s'[(swapC x y z).toNat]?.getD false = s[z.toNat]?.getD false) : IsWin c' s' (turnB x y lots) (swapC x y w) := by
  obtain ⟨w1, w2, w3⟩ := hw
  refine ⟨List.mem_map.2 ⟨w, w1, rfl⟩, by rw [hs w w1]; exact w2, fun i hi hsi => ?_⟩
  obtain ⟨z, hz, rfl⟩ := List.mem_map.1 hi
  rw [hc z hz, hc w w1, idxOf_turn, idxOf_turn]
  exact w3 z hz (by rw [← hs z hz]; exact hsi)

end Go.Proofs.Ytaaamidkfhabnaa

namespace Go.Proofs.Ytaaamidkfhabnaa

theorem parse_turn {x y : Int} (hx : 0 ≤ x ∧ x ≤ 4) (hy : 0 ≤ y ∧ y ≤ 4) {s : ByteArray} (h : validB (nums s) 5 = true) : parseL (turnT x y s) = turnB x y (parseL s) := by
  unfold turnT
  rw [parseL_ok h, txtB_parse (turnB_valid hx hy h)]
theorem firstL_turn {x y : Int} (hx : 0 ≤ x) (hy : 0 ≤ y) {zs : List Int} {L L' : List Bool} (h : ∀ z ∈ zs, L'[(swapC x y z).toNat]?.getD false = L[z.toNat]?.getD false) : firstL (turnB x y zs) L' = swapC x y (firstL zs L) := by
  unfold turnB
  induction zs with
  | nil =>
    have : swapC x y (-1) = -1 := by unfold swapC; rw [if_neg (by omega), if_neg (by omega)]
    rw [List.map_nil, firstL, firstL, this]
  | cons z t ih =>
    rw [List.map_cons, firstL, firstL, h z (by simp)]
    split
    · exact ih (fun u hu => h u (by simp [hu]))
    · rfl
theorem swapC_low {x y z : Int} (hx : 0 ≤ x) (hy : 0 ≤ y) (hz : 0 ≤ z) : 0 ≤ swapC x y z := by
  unfold swapC
  split
  · exact hy
  · split
    · exact hx
    · exact hz
theorem swapC_high {x y z n : Int} (hx : x < n) (hy : y < n) (hz : z < n) : swapC x y z < n := by
  unfold swapC
  split
  · exact hy
  · split
    · exact hx
    · exact hz
/-- The counts of turned piles are those of the other candidate. -/
theorem counts_turn {ps : List Pl} {L L' : List Bool} {x y : Int} (hx : 0 ≤ x ∧ x ≤ 4) (hy : 0 ≤ y ∧ y ≤ 4) (hv : ∀ p ∈ ps, validB (nums p.1) 5 = true) (hL : ∀ z : Int, 0 ≤ z → z ≤ 4 → L'[(swapC x y z).toNat]?.getD false = L[z.toNat]?.getD false) {k : Nat} (hk : k < L.length) (hk' : (swapC x y (k : Int)).toNat < L'.length) :
    (countsL (turnPs x y ps) L')[(swapC x y (k : Int)).toNat]?.getD 0 = (countsL ps L)[k]?.getD 0 := by
  rw [countsL_at _ _ hk', countsL_at _ _ hk, wsum_turn]
  refine wsum_congr (fun p hp => ?_)
  have h5 := hv p hp
  have hm := vB_mem h5
  have e1 : firstL (parseL (turnT x y p.1)) L' = swapC x y (firstL (parseL p.1) L) := by
    rw [parse_turn hx hy h5]
    refine firstL_turn hx.1 hy.1 (fun z hz => ?_)
    rw [parseL_ok h5] at hz
    have := hm.2.2 z hz
    exact hL z this.1 (by omega)
  have e2 := Int.toNat_of_nonneg (swapC_low hx.1 hy.1 (Int.natCast_nonneg k))
  unfold oneF
  rw [e1, e2]
  by_cases e : firstL (parseL p.1) L = (k : Int)
  · rw [if_pos e, if_pos (by rw [e])]
  · rw [if_neg e, if_neg (fun g => e (swapC_inj g))]

/-- Nobody has left. -/
def noneL (n : Nat) : List Bool := List.replicate n false
def allL (n : Nat) : List Bool := List.replicate n true
theorem noneL_at (n k : Nat) : (noneL n)[k]?.getD false = false := by
  unfold noneL; rw [List.getElem?_replicate]; split <;> rfl
theorem allL_at {n k : Nat} (h : k < n) : (allL n)[k]?.getD false = true := by
  unfold allL; rw [List.getElem?_replicate, if_pos h]; rfl
theorem noneL_length (n : Nat) : (noneL n).length = n := by simp [noneL]
def plurC (ps : List Pl) (n : Nat) : List Int := countsL ps (noneL n)
theorem plurC_length (ps : List Pl) (n : Nat) : (plurC ps n).length = n := by rw [plurC, countsL_length, noneL_length]
theorem plurC_low {ps : List Pl} (hp : ∀ p ∈ ps, 1 ≤ p.2) {n k : Nat} (hk : k < n) : 0 ≤ (plurC ps n)[k]?.getD 0 := counts_low (by rw [noneL_length]; exact hk) hp
/-- The winner. -/
def winL (ps : List Pl) (lots : List Int) : Int := pickL lots (mostL (plurC ps lots.length) (allL lots.length))
theorem win_is {ps : List Pl} {lots : List Int} (hl : lotsB lots = true) (hp : ∀ p ∈ ps, 1 ≤ p.2) : IsWin (plurC ps lots.length) (allL lots.length) lots (winL ps lots) := by
  have hn := lotsB_len hl
  refine win_pick hl (plurC_length _ _) (fun i hi => ?_) ⟨0, ?_, allL_at (by omega)⟩
  · rw [plurC_length] at hi
    exact plurC_low hp hi
  · rw [plurC_length]; omega
theorem winL_range {ps : List Pl} {lots : List Int} (hl : lotsB lots = true) (hp : ∀ p ∈ ps, 1 ≤ p.2) : 0 ≤ winL ps lots ∧ winL ps lots < (lots.length : Int) := (vB_mem hl).2.2 _ (win_is hl hp).1

/-- A ballot for one candidate alone. -/
theorem plurC_put {ps : List Pl} {w : Int} {n : Nat} (hw : 0 ≤ w ∧ w < 5) {i : Nat} (hi : i < n) : (plurC (putL ps (txtB [w]) 1) n)[i]?.getD 0 = (plurC ps n)[i]?.getD 0 + if w = (i : Int) then 1 else 0 := by
  unfold plurC
  rw [counts_put _ _ _ (by rw [noneL_length]; exact hi)]
  have hv : validB [w] 5 = true := vB_of (by omega) (by omega) (by simp) (fun z hz => by simp at hz; omega)
  have hf : firstL (parseL (txtB [w])) (noneL n) = w := by
    rw [txtB_parse hv, firstL, if_neg (by rw [noneL_at]; simp)]
  unfold oneF
  rw [hf, Int.mul_one]
/-- **A ballot for the winner helps.** -/
theorem plur_more {ps : List Pl} {lots : List Int} (hl : lotsB lots = true) (hp : ∀ p ∈ ps, 1 ≤ p.2) : winL (putL ps (txtB [winL ps lots]) 1) lots = winL ps lots := by
  have h0 := win_is hl hp
  have hr := winL_range hl hp
  have hn := lotsB_len hl
  have hm := (vB_mem hl).2.2
  generalize winL ps lots = w at h0 hr
  have h1 := win_is (ps := putL ps (txtB [w]) 1) hl (pos_put hp (by omega))
  refine win_one h1 ⟨h0.1, h0.2.1, fun i hi hs => ?_⟩
  have hi' := hm i hi
  have a := h0.2.2 i hi hs
  rw [plurC_put (by omega) (by omega), plurC_put (by omega) (by omega)]
  rw [if_pos (show w = (w.toNat : Int) by omega)]
  by_cases e : w = (i.toNat : Int)
  · have e2 : i = w := by omega
    subst e2
    exact .inr ⟨by rw [if_pos e], Nat.le_refl _⟩
  · rw [if_neg e]
    exact .inl (by omega)
/-- **Candidates are treated alike.** -/
theorem plur_turn {ps : List Pl} {lots : List Int} (hl : lotsB lots = true) (hps : pilesB ps = true) {x y : Int} (hx : 0 ≤ x ∧ x < (lots.length : Int)) (hy : 0 ≤ y ∧ y < (lots.length : Int)) : winL (turnPs x y ps) (turnB x y lots) = swapC x y (winL ps lots) := by
  have hn := lotsB_len hl
  have hm := (vB_mem hl).2.2
  have hpp := pilesB_pos hps
  have hlen : (turnB x y lots).length = lots.length := by simp [turnB]
  have hl' : lotsB (turnB x y lots) = true := by
    unfold lotsB
    refine vB_of (by omega) (by omega) ?_ (fun z hz => ?_)
    · unfold turnB List.Nodup
      rw [List.pairwise_map]
      exact List.Pairwise.imp (fun {a b} hab e => hab (swapC_inj e)) (vB_nodup hl)
    · obtain ⟨u, hu, rfl⟩ := List.mem_map.1 hz
      have := hm u hu
      rw [hlen]
      exact ⟨swapC_low hx.1 hy.1 this.1, swapC_high hx.2 hy.2 this.2⟩
  have h1 := win_is hl' (ps := turnPs x y ps) (turnPs_pos hpp.2.1)
  rw [hlen] at h1
  refine win_one h1 (win_turn (win_is hl hpp.2.1) (fun z hz => ?_) (fun z hz => ?_))
  · have hz' := hm z hz
    have hz2 := swapC_high hx.2 hy.2 hz'.2
    have hz3 := swapC_low hx.1 hy.1 hz'.1
    have hc := counts_turn (L := noneL lots.length) (L' := noneL lots.length) (k := z.toNat) (show 0 ≤ x ∧ x ≤ 4 by omega) (show 0 ≤ y ∧ y ≤ 4 by omega) hpp.2.2.2.1 (fun u _ _ => by rw [noneL_at, noneL_at]) (by rw [noneL_length]; omega) (by rw [noneL_length, Int.toNat_of_nonneg hz'.1]; omega)
    rw [Int.toNat_of_nonneg hz'.1] at hc
    exact hc
  · have hz' := hm z hz
    have hz2 := swapC_high hx.2 hy.2 hz'.2
    have hz3 := swapC_low hx.1 hy.1 hz'.1
    rw [allL_at (by omega), allL_at (by omega)]

/-- The greatest count of the first k others, or 0. -/
def nextTo (c : List Int) (w : Int) (k : Nat) : Int := (List.range k).foldl (fun (b : Int) (i : Nat) => if (i : Int) ≠ w then max b (c[i]?.getD 0) else b) 0
theorem nextTo_zero (c : List Int) (w : Int) : nextTo c w 0 = 0 := rfl
theorem nextTo_succ (c : List Int) (w : Int) (k : Nat) : nextTo c w (k + 1) = if (k : Int) ≠ w then max (nextTo c w k) (c[k]?.getD 0) else nextTo c w k := by
  simp [nextTo, List.range_succ]
theorem nextTo_low (c : List Int) (w : Int) (k : Nat) : 0 ≤ nextTo c w k := by
  induction k with
  | zero => exact Int.le_refl _
  | succ k ih => rw [nextTo_succ]; split <;> omega
theorem nextTo_ge {c : List Int} {w : Int} {k i : Nat} (h : i < k) (hw : (i : Int) ≠ w) : c[i]?.getD 0 ≤ nextTo c w k := by
  induction k with
  | zero => omega
  | succ k ih =>
    rw [nextTo_succ]
    by_cases e : i = k
    · subst e; rw [if_pos hw]; omega
    · have := ih (by omega)
      split <;> omega
theorem nextTo_hit (c : List Int) (w : Int) (k : Nat) : nextTo c w k = 0 ∨ ∃ i, i < k ∧ (i : Int) ≠ w ∧ c[i]?.getD 0 = nextTo c w k := by
  induction k with
  | zero => exact .inl rfl
  | succ k ih =>
    rw [nextTo_succ]
    by_cases hw : (k : Int) ≠ w
    · rw [if_pos hw]
      rcases ih with ih | ⟨i, hi, h1, h2⟩
      · by_cases g : c[k]?.getD 0 ≤ 0
        · left; omega
        · right; exact ⟨k, by omega, hw, by omega⟩
      · by_cases g : c[k]?.getD 0 ≤ nextTo c w k
        · right; exact ⟨i, by omega, h1, by omega⟩
        · right; exact ⟨k, by omega, hw, by omega⟩
    · rw [if_neg hw]
      rcases ih with ih | ⟨i, hi, h1, h2⟩
      · exact .inl ih
      · exact .inr ⟨i, by omega, h1, h2⟩
/-- The margin. -/
def marginL (ps : List Pl) (lots : List Int) : Int := (plurC ps lots.length)[(winL ps lots).toNat]?.getD 0 - nextTo (plurC ps lots.length) (winL ps lots) lots.length
theorem nextTo_congr {c c' : List Int} {w : Int} (k : Nat) (h : ∀ i, i < k → (i : Int) ≠ w → c'[i]?.getD 0 = c[i]?.getD 0) : nextTo c' w k = nextTo c w k := by
  induction k with
  | zero => rfl
  | succ k ih =>
    rw [nextTo_succ, nextTo_succ, ih (fun i hi => h i (by omega))]
    by_cases e : (k : Int) ≠ w
    · rw [if_pos e, if_pos e, h k (by omega) e]
    · rw [if_neg e, if_neg e]
theorem margin_more {ps : List Pl} {lots : List Int} (hl : lotsB lots = true) (hp : ∀ p ∈ ps, 1 ≤ p.2) : marginL (putL ps (txtB [winL ps lots]) 1) lots = marginL ps lots + 1 := by
  have hr := winL_range hl hp
  have hn := lotsB_len hl
  unfold marginL
  rw [plur_more hl hp]
  generalize winL ps lots = w at hr
  rw [plurC_put (by omega) (by omega), if_pos (by omega), nextTo_congr (c := plurC ps lots.length) lots.length (fun i hi hw => by rw [plurC_put (by omega) hi, if_neg (by omega)]; omega)]
  omega
/-- **A margin is how many ballots are more.** -/
theorem margin_is {ps : List Pl} {lots : List Int} (hl : lotsB lots = true) (hp : ∀ p ∈ ps, 1 ≤ p.2) :
    0 ≤ marginL ps lots ∧ (∀ i : Nat, i < lots.length → (i : Int) ≠ winL ps lots → marginL ps lots ≤ (plurC ps lots.length)[(winL ps lots).toNat]?.getD 0 - (plurC ps lots.length)[i]?.getD 0) ∧ ((lots.length = 1 ∧ marginL ps lots = (plurC ps lots.length)[(winL ps lots).toNat]?.getD 0) ∨ ∃ i : Nat, i < lots.length ∧ (i : Int) ≠ winL ps lots ∧ (plurC ps lots.length)[(winL ps lots).toNat]?.getD 0 - (plurC ps lots.length)[i]?.getD 0 = marginL ps lots) := by
  have h0 := win_is hl hp
  have hr := winL_range hl hp
  have hn := lotsB_len hl
  unfold marginL
  generalize winL ps lots = w at h0 hr
  have hw0 := plurC_low hp (n := lots.length) (k := w.toNat) (by omega)
  have hh := nextTo_hit (plurC ps lots.length) w lots.length
  have hlow := nextTo_low (plurC ps lots.length) w lots.length
  refine ⟨?_, fun i hi hw => ?_, ?_⟩
  · rcases hh with hh | ⟨i, hi, h1, h2⟩
    · omega
    · have := h0.2.2 (i : Int) (lots_mem hl hi) (allL_at (by omega))
      rw [Int.toNat_natCast] at this
      omega
  · have := nextTo_ge (c := plurC ps lots.length) hi hw
    omega
  · rcases hh with hh | ⟨i, hi, h1, h2⟩
    · by_cases e : lots.length = 1
      · exact .inl ⟨e, by omega⟩
      · right
        obtain ⟨i, hi, hw⟩ : ∃ i : Nat, i < lots.length ∧ (i : Int) ≠ w := by
          by_cases e0 : w = 0
          · exact ⟨1, by omega, by omega⟩
          · exact ⟨0, by omega, by omega⟩
        have a := plurC_low hp (n := lots.length) (k := i) hi
        have b := nextTo_ge (c := plurC ps lots.length) hi hw
        exact ⟨i, hi, hw, by omega⟩
    · exact .inr ⟨i, hi, h1, by omega⟩

end Go.Proofs.Ytaaamidkfhabnaa
