/-
  Transfers, step by step: who, what kind, what is left; sums do not grow; exchanging candidates. Of no memory.
-/
import Derived.Test.YteomnjakcnfchaaTransP
namespace Go.Proofs.Yteomnjakcnfchaa

theorem sumR_add {α : Type} : ∀ (l : List α) (F G : α → Rat), sumR (l.map fun z => F z + G z) = sumR (l.map F) + sumR (l.map G)
  | [], _, _ => by simp [sumR]; grind
  | b :: t, F, G => by
    simp only [List.map_cons, sumR_cons]
    rw [sumR_add t F G]; grind
theorem sumR_zero {α : Type} : ∀ (l : List α), sumR (l.map fun _ => (0 : Rat)) = 0
  | [] => rfl
  | _ :: t => by
    simp only [List.map_cons, sumR_cons]
    rw [sumR_zero t]; grind
theorem sumR_perm {α : Type} {l m : List α} (F : α → Rat) (h : l.Perm m) : sumR (l.map F) = sumR (m.map F) := by
  induction h with
  | nil => rfl
  | cons a _ ih => simp only [List.map_cons, sumR_cons]; rw [ih]
  | swap a b t => simp only [List.map_cons, sumR_cons]; grind
  | trans _ _ h1 h2 => rw [h1, h2]
/-- One number at one place of a list without repetition. -/
theorem sumR_one {z : Int} {x : Rat} : ∀ (K : List Int), K.Nodup → sumR (K.map fun k => if z = k then x else 0) = if z ∈ K then x else 0
  | [], _ => by simp [sumR]
  | a :: t, h => by
    rw [List.nodup_cons] at h
    simp only [List.map_cons, sumR_cons]
    rw [sumR_one t h.2]
    by_cases e : z = a
    · subst e
      rw [if_pos rfl, if_neg h.1, if_pos (by simp)]; grind
    · rw [if_neg e]
      by_cases m : z ∈ t
      · rw [if_pos m, if_pos (by simp [m])]; grind
      · rw [if_neg m, if_neg (by simp [m, e])]; grind
/-- What all ballots are worth that count for somebody of a list. -/
def liveR (B : List Bal) (K : List Int) (g : Int → Bool) : Rat := sumR (B.map fun b => if fstC b.1 g ∈ K then b.2 else 0)
/-- The sum of all counts. -/
theorem sum_cnt {K : List Int} (hK : K.Nodup) (g : Int → Bool) : ∀ (B : List Bal), sumR (K.map fun k => cntR B g k) = liveR B K g
  | [] => sumR_zero K
  | b :: t => by
    have ih := sum_cnt hK g t
    have e : (fun k => cntR (b :: t) g k) = fun k => (if fstC b.1 g = k then b.2 else 0) + cntR t g k := rfl
    rw [e, sumR_add, ih, sumR_one K hK]; rfl
/-- Ballots name candidates of a list alone. -/
def Names (B : List Bal) (K : List Int) : Prop := ∀ b ∈ B, ∀ z ∈ b.1, z ∈ K
theorem fst_there : ∀ (b : List Int) (g : Int → Bool), (∃ z ∈ b, g z = false) → fstC b g ∈ b
  | [], _, h => by obtain ⟨z, hz, _⟩ := h; cases hz
  | a :: t, g, h => by
    unfold fstC
    by_cases e : g a = true
    · rw [if_pos e]
      obtain ⟨z, hz, hg⟩ := h
      rcases List.mem_cons.1 hz with rfl | hz
      · rw [e] at hg; cases hg
      · exact List.mem_cons_of_mem _ (fst_there t g ⟨z, hz, hg⟩)
    · rw [if_neg e]; simp
theorem fst_gone {b : List Int} {g : Int → Bool} {w : Int} {K : List Int} (hb : ∀ z ∈ b, z ∈ K) (h1 : (-1 : Int) ∉ K) (h : fstC b (goneP g w) ∈ K) : fstC b g ∈ K := by
  rcases fstC_cases b (goneP g w) with e | ⟨e1, e2⟩
  · rw [e] at h; exact absurd h h1
  · refine hb _ (fst_there b g ⟨_, e1, ?_⟩)
    unfold goneP at e2
    simp at e2
    exact e2.1
theorem live_gone {B : List Bal} {K : List Int} {g : Int → Bool} (w : Int) (hV : ValR B) (hN : Names B K) (h1 : (-1 : Int) ∉ K) : liveR B K (goneP g w) ≤ liveR B K g := sumR_le B _ _ (fun b hb => by
  have := hV b hb
  by_cases e : fstC b.1 (goneP g w) ∈ K
  · rw [if_pos e, if_pos (fst_gone (hN b hb) h1 e)]; exact Rat.le_refl
  · rw [if_neg e]
    split
    · exact this
    · exact Rat.le_refl)
theorem weigh_names {B : List Bal} {K : List Int} {g : Int → Bool} {w : Int} {c q : Rat} (hN : Names B K) : Names (weighR B g w c q) K := by
  intro b hb
  obtain ⟨a, ha, rfl⟩ := List.mem_map.1 hb
  by_cases e : fstC a.1 g = w
  · rw [if_pos e]; exact hN a ha
  · rw [if_neg e]; exact hN a ha
theorem live_split {K : List Int} {w : Int} (hw : w ∈ K) (g : Int → Bool) (c q : Rat) : ∀ (B : List Bal), liveR (weighR B g w c q) K g = liveR B K g - cntR B g w + cntR B g w * ((c - q) / c)
  | [] => by simp [liveR, weighR, cntR, sumR]; grind
  | b :: t => by
    have ih := live_split hw g c q t
    unfold liveR weighR cntR at *
    simp only [List.map_cons, sumR_cons]
    by_cases e : fstC b.1 g = w
    · simp only [e, if_pos hw]; rw [if_pos trivial, ih]; grind
    · simp only [if_neg e]; rw [ih]; grind
/-- Behind a seat by the quota the sum is smaller by the quota, or by more. -/
theorem live_seat {B : List Bal} {K : List Int} {g : Int → Bool} {w : Int} {q : Rat} (hV : ValR B) (hN : Names B K) (h1 : (-1 : Int) ∉ K) (hw : w ∈ K) (hq : 0 < q) (hc : q ≤ cntR B g w) :
    liveR (weighR B g w (cntR B g w) q) K (goneP g w) ≤ liveR B K g - q := by
  have h := live_gone (g := g) w (weigh_val (g := g) (w := w) hq hc hV) (weigh_names (g := g) (w := w) (c := cntR B g w) (q := q) hN) h1
  rw [live_split hw] at h
  obtain ⟨c, hce⟩ : ∃ c, cntR B g w = c := ⟨_, rfl⟩
  rw [hce] at hc h ⊢
  have h0 : c ≠ 0 := by grind
  have e : c * ((c - q) / c) = c - q := by grind
  rw [e] at h; grind

/-- Who, and what happens: 1 a seat by the quota, 2 leaves, 3 a seat that is left. -/
def kindT (lots : List Int) (q : Rat) (g : Int → Bool) (B : List Bal) (s : Nat) : Nat := if q ≤ cntR B g (mostQ lots g (cntR B g)) then 1 else if (thereL lots g).length ≤ s then 3 else 2
def whoT (lots : List Int) (q : Rat) (g : Int → Bool) (B : List Bal) (s : Nat) : Int := if kindT lots q g B s = 2 then leastQ lots g (cntR B g) else mostQ lots g (cntR B g)
def nextB (lots : List Int) (q : Rat) (g : Int → Bool) (B : List Bal) (s : Nat) : List Bal := if kindT lots q g B s = 1 then weighR B g (whoT lots q g B s) (cntR B g (whoT lots q g B s)) q else B
def nextG (lots : List Int) (q : Rat) (g : Int → Bool) (B : List Bal) (s : Nat) : Int → Bool := goneP g (whoT lots q g B s)
def nextS (lots : List Int) (q : Rat) (g : Int → Bool) (B : List Bal) (s : Nat) : Nat := if kindT lots q g B s = 2 then s else s - 1
theorem kind_cases (lots : List Int) (q : Rat) (g : Int → Bool) (B : List Bal) (s : Nat) : kindT lots q g B s = 1 ∨ kindT lots q g B s = 2 ∨ kindT lots q g B s = 3 := by
  unfold kindT
  split
  · simp
  · split <;> simp
theorem runT_step (lots : List Int) (q : Rat) (f : Nat) (g : Int → Bool) (B : List Bal) (s : Nat) :
    runT lots q (f + 1) g B s = if s = 0 then [] else (whoT lots q g B s, kindT lots q g B s) :: runT lots q f (nextG lots q g B s) (nextB lots q g B s) (nextS lots q g B s) := by
  conv => lhs; unfold runT
  by_cases hs : s = 0
  · rw [if_pos hs, if_pos hs]
  · rw [if_neg hs, if_neg hs]
    by_cases hq : q ≤ cntR B g (mostQ lots g (cntR B g))
    · have hk : kindT lots q g B s = 1 := by unfold kindT; rw [if_pos hq]
      have hw : whoT lots q g B s = mostQ lots g (cntR B g) := by unfold whoT; rw [hk, if_neg (by omega)]
      rw [if_pos hq]; unfold nextG nextB nextS; rw [hk, hw, if_pos rfl, if_neg (by omega)]
    · rw [if_neg hq]
      by_cases hr : (thereL lots g).length ≤ s
      · have hk : kindT lots q g B s = 3 := by unfold kindT; rw [if_neg hq, if_pos hr]
        have hw : whoT lots q g B s = mostQ lots g (cntR B g) := by unfold whoT; rw [hk, if_neg (by omega)]
        rw [if_pos hr]; unfold nextG nextB nextS; rw [hk, hw, if_neg (by omega), if_neg (by omega)]
      · have hk : kindT lots q g B s = 2 := by unfold kindT; rw [if_neg hq, if_neg hr]
        have hw : whoT lots q g B s = leastQ lots g (cntR B g) := by unfold whoT; rw [hk, if_pos rfl]
        rw [if_neg hr]; unfold nextG nextB nextS; rw [hk, hw, if_neg (by omega), if_pos rfl]
theorem who_there {lots : List Int} {q : Rat} {g : Int → Bool} {B : List Bal} {s : Nat} (h : thereL lots g ≠ []) : whoT lots q g B s ∈ thereL lots g := by
  unfold whoT
  split
  · exact (least_spec (cntR B g) h).1
  · exact (most_spec (cntR B g) h).1
/-- **Who has the quota gets a seat** (promise 75): a seat by the quota is one whose count reaches it; a seat goes to the greatest count; who leaves, leaves where nobody reaches it. -/
theorem kind_quota {lots : List Int} {q : Rat} {g : Int → Bool} {B : List Bal} {s : Nat} (h : thereL lots g ≠ []) : kindT lots q g B s = 1 ↔ q ≤ cntR B g (whoT lots q g B s) := by
  constructor
  · intro hk
    have hw : whoT lots q g B s = mostQ lots g (cntR B g) := by unfold whoT; rw [hk, if_neg (by omega)]
    rw [hw]
    unfold kindT at hk
    by_cases hq : q ≤ cntR B g (mostQ lots g (cntR B g))
    · exact hq
    · rw [if_neg hq] at hk; split at hk <;> omega
  · intro hc
    have hm := (most_spec (cntR B g) h).2 _ (who_there (q := q) (B := B) (s := s) h)
    unfold kindT
    rw [if_pos (by grind)]
theorem seat_most {lots : List Int} {q : Rat} {g : Int → Bool} {B : List Bal} {s : Nat} (h : thereL lots g ≠ []) (hk : kindT lots q g B s ≠ 2) : ∀ i ∈ thereL lots g, cntR B g i ≤ cntR B g (whoT lots q g B s) := by
  have hw : whoT lots q g B s = mostQ lots g (cntR B g) := by unfold whoT; rw [if_neg hk]
  rw [hw]; exact (most_spec (cntR B g) h).2
theorem out_all {lots : List Int} {q : Rat} {g : Int → Bool} {B : List Bal} {s : Nat} (h : thereL lots g ≠ []) (hk : kindT lots q g B s = 2) : ∀ i ∈ thereL lots g, cntR B g i < q := by
  intro i hi
  have hm := (most_spec (cntR B g) h).2 i hi
  unfold kindT at hk
  by_cases hq : q ≤ cntR B g (mostQ lots g (cntR B g))
  · rw [if_pos hq] at hk; omega
  · grind
/-- **Who has least leaves** (promise 76); who is gone counts nothing. -/
theorem out_least {lots : List Int} {q : Rat} {g : Int → Bool} {B : List Bal} {s : Nat} (h : thereL lots g ≠ []) (hk : kindT lots q g B s = 2) : ∀ i ∈ thereL lots g, cntR B g (whoT lots q g B s) ≤ cntR B g i := by
  have hw : whoT lots q g B s = leastQ lots g (cntR B g) := by unfold whoT; rw [if_pos hk]
  rw [hw]; exact (least_spec (cntR B g) h).2
theorem cnt_gone {g : Int → Bool} {k : Int} (hk : g k = true) (h1 : k ≠ -1) (B : List Bal) : cntR B g k = 0 := by
  unfold cntR
  rw [sumR_congr B _ (fun _ => 0) (fun b _ => ?_), sumR_zero]
  by_cases e : fstC b.1 g = k
  · exfalso
    rcases fstC_cases b.1 g with e2 | ⟨_, e2⟩
    · exact h1 (e.symm.trans e2)
    · rw [e, hk] at e2; cases e2
  · rw [if_neg e]
theorem cnt_out {g : Int → Bool} {k : Int} {K : List Int} {B : List Bal} (hN : Names B K) (hk : k ∉ K) (h1 : k ≠ -1) : cntR B g k = 0 := by
  unfold cntR
  rw [sumR_congr B _ (fun _ => 0) (fun b hb => ?_), sumR_zero]
  by_cases e : fstC b.1 g = k
  · exfalso
    rcases fstC_cases b.1 g with e2 | ⟨e2, _⟩
    · exact h1 (e.symm.trans e2)
    · rw [e] at e2; exact hk (hN b hb k e2)
  · rw [if_neg e]
/-- **Seats that are left go to who is left** (promise 77). -/
theorem rest_kind {lots : List Int} {q : Rat} {g : Int → Bool} {B : List Bal} {s : Nat} : (kindT lots q g B s = 3 → (thereL lots g).length ≤ s) ∧ (kindT lots q g B s = 2 → s < (thereL lots g).length) := by
  unfold kindT
  by_cases hq : q ≤ cntR B g (mostQ lots g (cntR B g))
  · rw [if_pos hq]; simp
  · rw [if_neg hq]
    by_cases hr : (thereL lots g).length ≤ s
    · rw [if_pos hr]; simp [hr]
    · rw [if_neg hr]; simp; omega
theorem next_fits {lots : List Int} {q : Rat} {g : Int → Bool} {B : List Bal} {s : Nat} (hn : lots.Nodup) (hs : s ≠ 0) (h : s ≤ (thereL lots g).length) : nextS lots q g B s ≤ (thereL lots (nextG lots q g B s)).length ∧ (thereL lots (nextG lots q g B s)).length + 1 = (thereL lots g).length := by
  have hne : thereL lots g ≠ [] := fun e => by rw [e] at h; simp at h; omega
  have l1 := there_less hn (who_there (q := q) (B := B) (s := s) hne)
  have h2 := (rest_kind (lots := lots) (q := q) (g := g) (B := B) (s := s)).2
  unfold nextS nextG
  by_cases hk : kindT lots q g B s = 2
  · rw [if_pos hk]; have := h2 hk; omega
  · rw [if_neg hk]; omega
theorem next_val {lots : List Int} {q : Rat} {g : Int → Bool} {B : List Bal} {s : Nat} (hq : 0 < q) (hne : thereL lots g ≠ []) (hV : ValR B) : ValR (nextB lots q g B s) := by
  unfold nextB
  split
  · exact weigh_val hq ((kind_quota hne).1 (by assumption)) hV
  · exact hV
theorem next_names {lots K : List Int} {q : Rat} {g : Int → Bool} {B : List Bal} {s : Nat} (hN : Names B K) : Names (nextB lots q g B s) K := by
  unfold nextB
  split
  · exact weigh_names hN
  · exact hN
/-- **Ballots do not grow** (promise 74): from step to step the sum of all counts does not grow, and a seat by the quota takes the quota away. -/
theorem step_sum {lots K : List Int} {q : Rat} {g : Int → Bool} {B : List Bal} {s : Nat} (hq : 0 < q) (hne : thereL lots g ≠ []) (hV : ValR B) (hN : Names B K) (h1 : (-1 : Int) ∉ K) (hK : ∀ z ∈ lots, z ∈ K) :
    liveR (nextB lots q g B s) K (nextG lots q g B s) ≤ liveR B K g - (if kindT lots q g B s = 1 then q else 0) := by
  unfold nextB nextG
  by_cases hk : kindT lots q g B s = 1
  · rw [if_pos hk, if_pos hk]
    exact live_seat hV hN h1 (hK _ (there_mem.1 (who_there hne)).1) hq ((kind_quota hne).1 hk)
  · rw [if_neg hk, if_neg hk]
    have := live_gone (g := g) (whoT lots q g B s) hV hN h1
    grind
theorem live_first {B : List Bal} {K : List Int} (g : Int → Bool) (hV : ValR B) : liveR B K g ≤ allR B := sumR_le B _ _ (fun b hb => by
  have := hV b hb
  split
  · exact Rat.le_refl
  · exact this)
/-- **A single seat** (promise 78): who has the quota, and more than each other one, has it at once. -/
theorem one_seat {lots : List Int} {q : Rat} {g : Int → Bool} {B : List Bal} {i : Int} (f : Nat) (hi : i ∈ thereL lots g) (hq : q ≤ cntR B g i) (ho : ∀ z ∈ thereL lots g, z ≠ i → cntR B g z < cntR B g i) : winT (runT lots q (f + 1) g B 1) = [i] := by
  have hne : thereL lots g ≠ [] := fun e => by rw [e] at hi; cases hi
  obtain ⟨hm, hmax⟩ := most_spec (cntR B g) hne
  have hw : mostQ lots g (cntR B g) = i := by
    by_cases e : mostQ lots g (cntR B g) = i
    · exact e
    · have := ho _ hm e
      have := hmax i hi
      grind
  rw [runT_step, if_neg (by omega), winT_cons]
  have hk : kindT lots q g B 1 = 1 := by unfold kindT; rw [hw, if_pos hq]
  have hww : whoT lots q g B 1 = i := by unfold whoT; rw [hk, if_neg (by omega), hw]
  have hns : nextS lots q g B 1 = 0 := by unfold nextS; rw [hk, if_neg (by omega)]
  rw [hk, hww, hns, if_neg (by simp)]
  cases f with
  | zero => rfl
  | succ f => rw [runT_step, if_pos rfl]; rfl

/-- Ballots in another order. -/
theorem cnt_perm {B C : List Bal} (h : B.Perm C) (g : Int → Bool) : cntR B g = cntR C g := funext fun _ => sumR_perm _ h
theorem weigh_perm {B C : List Bal} (h : B.Perm C) (g : Int → Bool) (w : Int) (c q : Rat) : (weighR B g w c q).Perm (weighR C g w c q) := h.map _
theorem runT_perm {lots : List Int} {q : Rat} : ∀ (f : Nat) (g : Int → Bool) (B C : List Bal) (s : Nat), B.Perm C → runT lots q f g B s = runT lots q f g C s
  | 0, _, _, _, _, _ => rfl
  | f + 1, g, B, C, s, h => by
    have e := cnt_perm h g
    have hk : kindT lots q g B s = kindT lots q g C s := by unfold kindT; rw [e]
    have hw : whoT lots q g B s = whoT lots q g C s := by unfold whoT; rw [hk, e]
    have hb : (nextB lots q g B s).Perm (nextB lots q g C s) := by
      unfold nextB
      rw [hk, hw, e]
      split
      · exact weigh_perm h _ _ _ _
      · exact h
    have hg : nextG lots q g B s = nextG lots q g C s := by unfold nextG; rw [hw]
    have hs : nextS lots q g B s = nextS lots q g C s := by unfold nextS; rw [hk]
    rw [runT_step, runT_step, hk, hw, hg, hs, runT_perm f _ _ _ _ hb]
/-- Candidates renamed: an exchange that leaves -1. -/
structure Ren (p : Int → Int) : Prop where
  back : ∀ z, p (p z) = z
  none : p (-1) = -1
def turnR (p : Int → Int) (B : List Bal) : List Bal := B.map fun b => (b.1.map p, b.2)
theorem Ren.inj {p : Int → Int} (h : Ren p) {a b : Int} (e : p a = p b) : a = b := by rw [← h.back a, e, h.back]
theorem fst_turn {p : Int → Int} (h : Ren p) (g : Int → Bool) : ∀ (b : List Int), fstC (b.map p) (fun z => g (p z)) = p (fstC b g)
  | [] => h.none.symm
  | a :: t => by
    rw [List.map_cons]
    unfold fstC
    simp only [h.back]
    by_cases e : g a = true
    · rw [if_pos e, if_pos e]; exact fst_turn h g t
    · rw [if_neg e, if_neg e]
theorem cntR_turn {p : Int → Int} (h : Ren p) (g : Int → Bool) (B : List Bal) (k : Int) : cntR (turnR p B) (fun z => g (p z)) (p k) = cntR B g k := by
  unfold cntR turnR
  rw [List.map_map]
  refine sumR_congr B _ _ (fun b _ => ?_)
  show (if fstC (b.1.map p) (fun z => g (p z)) = p k then b.2 else 0) = _
  rw [fst_turn h]
  by_cases e : fstC b.1 g = k
  · rw [if_pos e, if_pos (by rw [e])]
  · rw [if_neg e, if_neg (fun e2 => e (h.inj e2))]
theorem cntR_turn' {p : Int → Int} (h : Ren p) (g : Int → Bool) (B : List Bal) : cntR (turnR p B) (fun z => g (p z)) = fun k => cntR B g (p k) := by
  funext k
  rw [← cntR_turn h g B (p k), h.back]
theorem weigh_turn {p : Int → Int} (h : Ren p) (g : Int → Bool) (B : List Bal) (w : Int) (c q : Rat) : weighR (turnR p B) (fun z => g (p z)) (p w) c q = turnR p (weighR B g w c q) := by
  unfold weighR turnR
  rw [List.map_map, List.map_map]
  refine List.map_congr_left (fun b _ => ?_)
  show (if fstC (b.1.map p) (fun z => g (p z)) = p w then ((b.1.map p), b.2 * ((c - q) / c)) else (b.1.map p, b.2)) = _
  rw [fst_turn h]
  show _ = ((if fstC b.1 g = w then (b.1, b.2 * ((c - q) / c)) else b).1.map p, (if fstC b.1 g = w then (b.1, b.2 * ((c - q) / c)) else b).2)
  by_cases e : fstC b.1 g = w
  · rw [if_pos e, if_pos (by rw [e])]
  · rw [if_neg e, if_neg (fun e2 => e (h.inj e2))]
theorem there_turn {p : Int → Int} (h : Ren p) (g : Int → Bool) : ∀ (lots : List Int), thereL (lots.map p) (fun z => g (p z)) = (thereL lots g).map p
  | [] => rfl
  | a :: t => by
    have ih := there_turn h g t
    unfold thereL at *
    rw [List.map_cons, List.filter_cons, List.filter_cons]
    simp only [h.back]
    by_cases e : (!g a) = true
    · rw [if_pos e, if_pos e, List.map_cons, ih]
    · rw [if_neg e, if_neg e, ih]
theorem topQ_turn {p : Int → Int} (h : Ren p) (R : Int → Rat) : ∀ (t : List Int) (b : Int), topQ (fun k => R (p k)) (p b) (t.map p) = p (topQ R b t)
  | [], _ => rfl
  | k :: t, b => by
    rw [List.map_cons]
    unfold topQ
    simp only [h.back]
    by_cases e : R b < R k
    · rw [if_pos e, if_pos e]; exact topQ_turn h R t k
    · rw [if_neg e, if_neg e]; exact topQ_turn h R t b
theorem head_turn {p : Int → Int} (h : Ren p) (l : List Int) : (l.map p)[0]?.getD (-1) = p (l[0]?.getD (-1)) := by
  cases l with
  | nil => exact h.none.symm
  | cons a t => rfl
theorem most_turn {p : Int → Int} (h : Ren p) (lots : List Int) (g : Int → Bool) (R : Int → Rat) : mostQ (lots.map p) (fun z => g (p z)) (fun k => R (p k)) = p (mostQ lots g R) := by
  unfold mostQ
  rw [there_turn h, head_turn h, ← List.map_drop, topQ_turn h]
theorem least_turn {p : Int → Int} (h : Ren p) (lots : List Int) (g : Int → Bool) (R : Int → Rat) : leastQ (lots.map p) (fun z => g (p z)) (fun k => R (p k)) = p (leastQ lots g R) := by
  unfold leastQ
  rw [there_turn h, ← List.map_reverse, head_turn h, ← List.map_drop]
  exact topQ_turn h (fun z => 0 - R z) _ _
theorem gone_turn {p : Int → Int} (h : Ren p) (g : Int → Bool) (w : Int) : goneP (fun z => g (p z)) (p w) = fun z => goneP g w (p z) := by
  funext z
  unfold goneP
  by_cases e : p z = w
  · have : z = p w := by rw [← e, h.back]
    simp only [this, h.back, decide_true, Bool.or_true]
  · have : z ≠ p w := fun e2 => e (by rw [e2, h.back])
    rw [decide_eq_false this, decide_eq_false e]
/-- **Candidates are treated alike** (promise 80). -/
theorem runT_turn {p : Int → Int} (h : Ren p) {lots : List Int} {q : Rat} : ∀ (f : Nat) (g : Int → Bool) (B : List Bal) (s : Nat), runT (lots.map p) q f (fun z => g (p z)) (turnR p B) s = (runT lots q f g B s).map fun x => (p x.1, x.2)
  | 0, _, _, _ => rfl
  | f + 1, g, B, s => by
    have hm : mostQ (lots.map p) (fun z => g (p z)) (cntR (turnR p B) (fun z => g (p z))) = p (mostQ lots g (cntR B g)) := by rw [cntR_turn' h]; exact most_turn h lots g (cntR B g)
    have hl : leastQ (lots.map p) (fun z => g (p z)) (cntR (turnR p B) (fun z => g (p z))) = p (leastQ lots g (cntR B g)) := by rw [cntR_turn' h]; exact least_turn h lots g (cntR B g)
    have hk : kindT (lots.map p) q (fun z => g (p z)) (turnR p B) s = kindT lots q g B s := by
      unfold kindT; rw [hm, cntR_turn h, there_turn h, List.length_map]
    have hw : whoT (lots.map p) q (fun z => g (p z)) (turnR p B) s = p (whoT lots q g B s) := by
      unfold whoT; rw [hk, hm, hl]; split <;> rfl
    have hb : nextB (lots.map p) q (fun z => g (p z)) (turnR p B) s = turnR p (nextB lots q g B s) := by
      unfold nextB; rw [hk, hw, cntR_turn h]
      split
      · exact weigh_turn h g B _ _ q
      · rfl
    have hg : nextG (lots.map p) q (fun z => g (p z)) (turnR p B) s = fun z => nextG lots q g B s (p z) := by unfold nextG; rw [hw]; exact gone_turn h g _
    have hs : nextS (lots.map p) q (fun z => g (p z)) (turnR p B) s = nextS lots q g B s := by unfold nextS; rw [hk]
    rw [runT_step, runT_step, hk, hw, hb, hg, hs]
    by_cases h0 : s = 0
    · rw [if_pos h0, if_pos h0]; rfl
    · rw [if_neg h0, if_neg h0, runT_turn h f _ _ _]; rfl
theorem winT_turn (p : Int → Int) : ∀ (l : List (Int × Nat)), winT (l.map fun x => (p x.1, x.2)) = (winT l).map p
  | [] => rfl
  | a :: t => by
    rw [List.map_cons, winT_cons, winT_cons, winT_turn p t]
    split <;> rfl
/-- **More than a part of all ballots** (promise 72). -/
theorem quota_t {t s : Int} (hs : 0 < s + 1) : t < (t / (s + 1) + 1) * (s + 1) ∧ (t / (s + 1)) * (s + 1) ≤ t := by
  have h1 := Int.lt_ediv_add_one_mul_self t hs
  have h2 := Int.ediv_mul_le t (b := s + 1) (by omega)
  exact ⟨h1, h2⟩

end Go.Proofs.Yteomnjakcnfchaa
