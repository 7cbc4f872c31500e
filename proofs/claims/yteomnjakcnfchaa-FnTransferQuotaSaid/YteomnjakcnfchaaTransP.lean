/-
  Transfers of votes, with exact weights: steps, seats, sums; a solid pair gets a seat. Of no memory.
-/
import Derived.Test.YteomnjakcnfchaaRemP
namespace Go.Proofs.Yteomnjakcnfchaa

def sumR : List Rat → Rat
  | [] => 0
  | a :: t => a + sumR t
theorem sumR_cons (a : Rat) (t : List Rat) : sumR (a :: t) = a + sumR t := rfl
theorem sumR_le {α : Type} : ∀ (l : List α) (F G : α → Rat), (∀ b ∈ l, F b ≤ G b) → sumR (l.map F) ≤ sumR (l.map G)
  | [], _, _, _ => Rat.le_refl
  | b :: t, F, G, h => by
    have h1 := h b (by simp)
    have h2 := sumR_le t F G (fun z hz => h z (by simp [hz]))
    rw [List.map_cons, List.map_cons, sumR_cons, sumR_cons]; grind
theorem sumR_nonneg {α : Type} : ∀ (l : List α) (F : α → Rat), (∀ b ∈ l, 0 ≤ F b) → 0 ≤ sumR (l.map F)
  | [], _, _ => Rat.le_refl
  | b :: t, F, h => by
    have h1 := h b (by simp)
    have h2 := sumR_nonneg t F (fun z hz => h z (by simp [hz]))
    rw [List.map_cons, sumR_cons]; grind
theorem sumR_congr {α : Type} : ∀ (l : List α) (F G : α → Rat), (∀ b ∈ l, F b = G b) → sumR (l.map F) = sumR (l.map G)
  | [], _, _, _ => rfl
  | b :: t, F, G, h => by
    rw [List.map_cons, List.map_cons, sumR_cons, sumR_cons, h b (by simp), sumR_congr t F G (fun z hz => h z (by simp [hz]))]

/-- The first candidate of a ballot who is still there, or -1. -/
def fstC : List Int → (Int → Bool) → Int
  | [], _ => -1
  | z :: t, g => if g z = true then fstC t g else z
theorem fstC_cases : ∀ (b : List Int) (g : Int → Bool), fstC b g = -1 ∨ (fstC b g ∈ b ∧ g (fstC b g) = false)
  | [], _ => .inl rfl
  | z :: t, g => by
    unfold fstC
    by_cases h : g z = true
    · rw [if_pos h]
      rcases fstC_cases t g with e | ⟨e1, e2⟩
      · exact .inl e
      · exact .inr ⟨by simp [e1], e2⟩
    · rw [if_neg h]; exact .inr ⟨by simp, by simpa using h⟩
/-- Ballots: whom they name, and what they are worth together. -/
abbrev Bal := List Int × Rat
/-- The count of a candidate; the worth of all ballots. -/
def cntR (B : List Bal) (g : Int → Bool) (k : Int) : Rat := sumR (B.map fun b => if fstC b.1 g = k then b.2 else 0)
def allR (B : List Bal) : Rat := sumR (B.map fun b => b.2)
/-- The ballots behind a seat with a count c: of those that counted for w, the part above the quota stays. -/
def weighR (B : List Bal) (g : Int → Bool) (w : Int) (c q : Rat) : List Bal := B.map fun b => if fstC b.1 g = w then (b.1, b.2 * ((c - q) / c)) else b
def ValR (B : List Bal) : Prop := ∀ b ∈ B, 0 ≤ b.2
theorem part_nonneg {c q : Rat} (hq : 0 < q) (hc : q ≤ c) : 0 ≤ (c - q) / c := by
  have h0 : 0 < c := by grind
  rw [Rat.div_def]
  exact Rat.mul_nonneg (by grind) (Rat.le_of_lt (Rat.inv_pos.2 h0))
theorem weigh_val {B : List Bal} {g : Int → Bool} {w : Int} {c q : Rat} (hq : 0 < q) (hc : q ≤ c) (h : ValR B) : ValR (weighR B g w c q) := by
  intro b hb
  obtain ⟨a, ha, rfl⟩ := List.mem_map.1 hb
  by_cases e : fstC a.1 g = w
  · rw [if_pos e]; exact Rat.mul_nonneg (h a ha) (part_nonneg hq hc)
  · rw [if_neg e]; exact h a ha
theorem weigh_split : ∀ (B : List Bal) (g : Int → Bool) (w : Int) (c q : Rat), allR (weighR B g w c q) = allR B - cntR B g w + cntR B g w * ((c - q) / c)
  | [], _, _, _, _ => by simp [allR, weighR, cntR, sumR]; grind
  | b :: t, g, w, c, q => by
    have ih := weigh_split t g w c q
    unfold allR weighR cntR at *
    simp only [List.map_cons, sumR_cons]
    by_cases e : fstC b.1 g = w
    · simp only [if_pos e]; rw [ih]; grind
    · simp only [if_neg e]; rw [ih]; grind
/-- A seat takes the quota away. -/
theorem weigh_all {B : List Bal} {g : Int → Bool} {w : Int} {q : Rat} (hq : 0 < q) (hc : q ≤ cntR B g w) : allR (weighR B g w (cntR B g w) q) = allR B - q := by
  rw [weigh_split]
  obtain ⟨c, hce⟩ : ∃ c, cntR B g w = c := ⟨_, rfl⟩
  rw [hce] at hc ⊢
  have h0 : c ≠ 0 := by grind
  have e : c * ((c - q) / c) = c - q := by grind
  rw [e]; grind

/-- The greatest of some numbers: of several ones the first one in the list. -/
def topQ (R : Int → Rat) : Int → List Int → Int
  | best, [] => best
  | best, k :: t => topQ R (if R best < R k then k else best) t
theorem topQ_spec (R : Int → Rat) : ∀ (t : List Int) (b : Int), (topQ R b t = b ∨ topQ R b t ∈ t) ∧ R b ≤ R (topQ R b t) ∧ ∀ i ∈ t, R i ≤ R (topQ R b t)
  | [], b => ⟨.inl rfl, Rat.le_refl, fun i hi => by (cases hi)⟩
  | k :: t, b => by
    unfold topQ
    by_cases h : R b < R k
    · rw [if_pos h]
      obtain ⟨h1, h2, h3⟩ := topQ_spec R t k
      refine ⟨?_, by grind, fun i hi => ?_⟩
      · rcases h1 with e | e
        · exact .inr (by rw [e]; simp)
        · exact .inr (by simp [e])
      · rcases List.mem_cons.1 hi with e | e
        · rw [e]; exact h2
        · exact h3 i e
    · rw [if_neg h]
      obtain ⟨h1, h2, h3⟩ := topQ_spec R t b
      refine ⟨?_, h2, fun i hi => ?_⟩
      · rcases h1 with e | e
        · exact .inl e
        · exact .inr (by simp [e])
      · rcases List.mem_cons.1 hi with e | e
        · rw [e]; grind
        · exact h3 i e
/-- Those who are there, in the order of the lots. -/
def thereL (lots : List Int) (g : Int → Bool) : List Int := lots.filter fun z => !g z
theorem there_mem {lots : List Int} {g : Int → Bool} {z : Int} : z ∈ thereL lots g ↔ z ∈ lots ∧ g z = false := by simp [thereL]
/-- The one with the greatest count, who comes first; the one with the least count, who comes last. -/
def mostQ (lots : List Int) (g : Int → Bool) (R : Int → Rat) : Int := topQ R ((thereL lots g)[0]?.getD (-1)) ((thereL lots g).drop 1)
def leastQ (lots : List Int) (g : Int → Bool) (R : Int → Rat) : Int := topQ (fun z => 0 - R z) ((thereL lots g).reverse[0]?.getD (-1)) ((thereL lots g).reverse.drop 1)
theorem topQ_list {R : Int → Rat} {l : List Int} (h : l ≠ []) : topQ R (l[0]?.getD (-1)) (l.drop 1) ∈ l ∧ ∀ i ∈ l, R i ≤ R (topQ R (l[0]?.getD (-1)) (l.drop 1)) := by
  match l, h with
  | b :: t, _ =>
    obtain ⟨h1, h2, h3⟩ := topQ_spec R t b
    simp only [List.getElem?_cons_zero, Option.getD_some, List.drop_succ_cons, List.drop_zero]
    refine ⟨?_, fun i hi => ?_⟩
    · rcases h1 with e | e
      · rw [e]; simp
      · simp [e]
    · rcases List.mem_cons.1 hi with e | e
      · rw [e]; exact h2
      · exact h3 i e
theorem most_spec {lots : List Int} {g : Int → Bool} (R : Int → Rat) (h : thereL lots g ≠ []) : mostQ lots g R ∈ thereL lots g ∧ ∀ i ∈ thereL lots g, R i ≤ R (mostQ lots g R) := topQ_list h
theorem least_spec {lots : List Int} {g : Int → Bool} (R : Int → Rat) (h : thereL lots g ≠ []) : leastQ lots g R ∈ thereL lots g ∧ ∀ i ∈ thereL lots g, R (leastQ lots g R) ≤ R i := by
  have h' : (thereL lots g).reverse ≠ [] := fun e => h (List.reverse_eq_nil_iff.1 e)
  obtain ⟨h1, h2⟩ := topQ_list (R := fun z => 0 - R z) h'
  refine ⟨List.mem_reverse.1 h1, fun i hi => ?_⟩
  have := h2 i (List.mem_reverse.2 hi)
  unfold leastQ
  grind
/-- One more is not there any more. -/
def goneP (g : Int → Bool) (w : Int) : Int → Bool := fun z => g z || decide (z = w)
theorem gone_at (g : Int → Bool) (w : Int) : goneP g w w = true := by simp [goneP]
theorem gone_not {g : Int → Bool} {w z : Int} (h : z ≠ w) : goneP g w z = g z := by simp [goneP, h]
theorem there_less {lots : List Int} {g : Int → Bool} {w : Int} (hn : lots.Nodup) (hw : w ∈ thereL lots g) : (thereL lots (goneP g w)).length + 1 = (thereL lots g).length := by
  induction lots with
  | nil => cases hw
  | cons a t ih =>
    rw [List.nodup_cons] at hn
    have e : ∀ h : Int → Bool, thereL (a :: t) h = if h a = true then thereL t h else a :: thereL t h := fun h => by
      unfold thereL
      rw [List.filter_cons]
      by_cases ha : h a = true
      · rw [if_pos ha, if_neg (by simp [ha])]
      · rw [if_neg ha, if_pos (by simpa using ha)]
    rw [e g] at hw ⊢
    rw [e (goneP g w)]
    by_cases haw : a = w
    · subst haw
      rw [if_pos (gone_at g a)]
      by_cases hga : g a = true
      · rw [if_pos hga] at hw
        exact absurd (there_mem.1 hw).1 hn.1
      · rw [if_neg hga]
        have : thereL t (goneP g a) = thereL t g := by
          unfold thereL
          apply List.filter_congr
          intro z hz
          rw [gone_not (fun e : z = a => hn.1 (by rw [← e]; exact hz))]
        rw [this, List.length_cons]
    · rw [gone_not haw]
      by_cases hga : g a = true
      · rw [if_pos hga] at hw
        rw [if_pos hga, if_pos hga]; exact ih hn.2 hw
      · rw [if_neg hga] at hw
        rw [if_neg hga, if_neg hga, List.length_cons, List.length_cons]
        have hwt : w ∈ thereL t g := by
          rcases List.mem_cons.1 hw with e2 | e2
          · exact absurd e2.symm haw
          · exact e2
        have := ih hn.2 hwt
        omega

/-- The steps: who, and what happens (1: a seat by the quota, 2: leaves, 3: a seat that is left). -/
def runT (lots : List Int) (q : Rat) : Nat → (Int → Bool) → List Bal → Nat → List (Int × Nat)
  | 0, _, _, _ => []
  | f + 1, g, B, s =>
    if s = 0 then []
    else if q ≤ cntR B g (mostQ lots g (cntR B g)) then (mostQ lots g (cntR B g), 1) :: runT lots q f (goneP g (mostQ lots g (cntR B g))) (weighR B g (mostQ lots g (cntR B g)) (cntR B g (mostQ lots g (cntR B g))) q) (s - 1)
    else if (thereL lots g).length ≤ s then (mostQ lots g (cntR B g), 3) :: runT lots q f (goneP g (mostQ lots g (cntR B g))) B (s - 1)
    else (leastQ lots g (cntR B g), 2) :: runT lots q f (goneP g (leastQ lots g (cntR B g))) B s
/-- Those who get seats. -/
def winT (l : List (Int × Nat)) : List Int := (l.filter fun p => !decide (p.2 = 2)).map fun p => p.1
theorem winT_cons (p : Int × Nat) (l : List (Int × Nat)) : winT (p :: l) = if p.2 = 2 then winT l else p.1 :: winT l := by
  unfold winT
  rw [List.filter_cons]
  by_cases h : p.2 = 2
  · simp [h]
  · simp [h]
/-- **All seats are given** (promise 73), and nobody comes twice. -/
theorem run_seats {lots : List Int} {q : Rat} (hn : lots.Nodup) : ∀ (f : Nat) (g : Int → Bool) (B : List Bal) (s : Nat), s ≤ (thereL lots g).length → (thereL lots g).length ≤ f → (winT (runT lots q f g B s)).length = s
  | 0, g, B, s, h1, h2 => by
    have : s = 0 := by omega
    subst this; rfl
  | f + 1, g, B, s, h1, h2 => by
    unfold runT
    by_cases hs : s = 0
    · rw [if_pos hs, hs]; rfl
    · rw [if_neg hs]
      have hne : thereL lots g ≠ [] := fun e => by rw [e] at h1; simp at h1; omega
      obtain ⟨hm, _⟩ := most_spec (cntR B g) hne
      obtain ⟨hl, _⟩ := least_spec (cntR B g) hne
      have l1 := there_less hn hm
      have l2 := there_less hn hl
      by_cases hq : q ≤ cntR B g (mostQ lots g (cntR B g))
      · rw [if_pos hq, winT_cons, if_neg (by simp), List.length_cons, run_seats hn f _ _ (s - 1) (by omega) (by omega)]; omega
      · rw [if_neg hq]
        by_cases hr : (thereL lots g).length ≤ s
        · rw [if_pos hr, winT_cons, if_neg (by simp), List.length_cons, run_seats hn f _ _ (s - 1) (by omega) (by omega)]; omega
        · rw [if_neg hr, winT_cons, if_pos rfl, run_seats hn f _ _ s (by omega) (by omega)]
theorem run_there {lots : List Int} {q : Rat} : ∀ (f : Nat) (g : Int → Bool) (B : List Bal) (s : Nat), s ≤ (thereL lots g).length → lots.Nodup → ∀ p ∈ runT lots q f g B s, p.1 ∈ thereL lots g
  | 0, _, _, _, _, _, p, hp => by cases hp
  | f + 1, g, B, s, h1, hn, p, hp => by
    unfold runT at hp
    by_cases hs : s = 0
    · rw [if_pos hs] at hp; cases hp
    · rw [if_neg hs] at hp
      have hne : thereL lots g ≠ [] := fun e => by rw [e] at h1; simp at h1; omega
      obtain ⟨hm, _⟩ := most_spec (cntR B g) hne
      obtain ⟨hl, _⟩ := least_spec (cntR B g) hne
      have l1 := there_less hn hm
      have l2 := there_less hn hl
      have hsub : ∀ w z, z ∈ thereL lots (goneP g w) → z ∈ thereL lots g := fun w z hz => by
        obtain ⟨a, b⟩ := there_mem.1 hz
        refine there_mem.2 ⟨a, ?_⟩
        unfold goneP at b
        simp at b
        exact b.1
      by_cases hq : q ≤ cntR B g (mostQ lots g (cntR B g))
      · rw [if_pos hq] at hp
        rcases List.mem_cons.1 hp with e | e
        · rw [e]; exact hm
        · exact hsub _ _ (run_there f _ _ _ (by omega) hn p e)
      · rw [if_neg hq] at hp
        by_cases hr : (thereL lots g).length ≤ s
        · rw [if_pos hr] at hp
          rcases List.mem_cons.1 hp with e | e
          · rw [e]; exact hm
          · exact hsub _ _ (run_there f _ _ _ (by omega) hn p e)
        · rw [if_neg hr] at hp
          rcases List.mem_cons.1 hp with e | e
          · rw [e]; exact hl
          · exact hsub _ _ (run_there f _ _ _ (by omega) hn p e)
/-- Where at most as many are there as seats, each of them gets one. -/
theorem rest_all {lots : List Int} {q : Rat} (hn : lots.Nodup) : ∀ (f : Nat) (g : Int → Bool) (B : List Bal) (s : Nat) (z : Int), (thereL lots g).length ≤ f → (thereL lots g).length ≤ s → z ∈ thereL lots g → z ∈ winT (runT lots q f g B s)
  | 0, g, B, s, z, h1, _, hz => by
    have : thereL lots g = [] := List.length_eq_zero_iff.1 (by omega)
    rw [this] at hz; cases hz
  | f + 1, g, B, s, z, h1, h2, hz => by
    have hne : thereL lots g ≠ [] := fun e => by rw [e] at hz; cases hz
    have hp : 0 < (thereL lots g).length := List.length_pos_of_mem hz
    obtain ⟨hm, _⟩ := most_spec (cntR B g) hne
    have l1 := there_less hn hm
    unfold runT
    rw [if_neg (by omega)]
    have hrec : ∀ (B' : List Bal), z ≠ mostQ lots g (cntR B g) → z ∈ winT (runT lots q f (goneP g (mostQ lots g (cntR B g))) B' (s - 1)) := fun B' hzw =>
      rest_all hn f _ B' (s - 1) z (by omega) (by omega) (there_mem.2 ⟨(there_mem.1 hz).1, by rw [gone_not hzw]; exact (there_mem.1 hz).2⟩)
    by_cases hq : q ≤ cntR B g (mostQ lots g (cntR B g))
    · rw [if_pos hq, winT_cons, if_neg (by simp)]
      by_cases hzw : z = mostQ lots g (cntR B g)
      · rw [hzw]; simp
      · exact List.mem_cons_of_mem _ (hrec _ hzw)
    · rw [if_neg hq, if_pos h2, winT_cons, if_neg (by simp)]
      by_cases hzw : z = mostQ lots g (cntR B g)
      · rw [hzw]; simp
      · exact List.mem_cons_of_mem _ (hrec _ hzw)

/-- A ballot of a pair: both come first on it. -/
def pairB (x y : Int) (b : List Int) : Bool := match b with
  | u :: v :: _ => (decide (u = x) && decide (v = y)) || (decide (u = y) && decide (v = x))
  | _ => false
theorem pair_first {x y : Int} {b : List Int} {g : Int → Bool} (h : pairB x y b = true) : (g x = false ∧ g y = true → fstC b g = x) ∧ (g y = false ∧ g x = true → fstC b g = y) ∧ (g x = false ∨ g y = false → fstC b g = x ∨ fstC b g = y) := by
  match b, h with
  | u :: v :: t, h =>
    unfold pairB at h
    simp at h
    unfold fstC
    unfold fstC
    rcases h with ⟨rfl, rfl⟩ | ⟨rfl, rfl⟩
    · refine ⟨fun ⟨a, b⟩ => by rw [if_neg (by simp [a])], fun ⟨a, b⟩ => by rw [if_pos b, if_neg (by simp [a])], fun h => ?_⟩
      by_cases a : g u = true
      · rw [if_pos a]
        have : g v = false := by rcases h with e | e; · rw [a] at e; cases e
                                 · exact e
        rw [if_neg (by simp [this])]; exact .inr rfl
      · rw [if_neg a]; exact .inl rfl
    · refine ⟨fun ⟨a, b⟩ => by rw [if_pos b, if_neg (by simp [a])], fun ⟨a, b⟩ => by rw [if_neg (by simp [a])], fun h => ?_⟩
      by_cases a : g u = true
      · rw [if_pos a]
        have : g v = false := by rcases h with e | e; · exact e
                                 · rw [a] at e; cases e
        rw [if_neg (by simp [this])]; exact .inl rfl
      · rw [if_neg a]; exact .inr rfl
/-- What the pair's ballots are worth. -/
def pairR (B : List Bal) (x y : Int) : Rat := sumR (B.map fun b => if pairB x y b.1 = true then b.2 else 0)
theorem pair_le_all {B : List Bal} (h : ValR B) (x y : Int) : pairR B x y ≤ allR B := sumR_le B _ _ (fun b hb => by
  have := h b hb
  split
  · exact Rat.le_refl
  · exact this)
theorem pair_le_cnt {B : List Bal} (h : ValR B) {x y z : Int} {g : Int → Bool} (hz : ∀ b, pairB x y b = true → fstC b g = z) : pairR B x y ≤ cntR B g z := sumR_le B _ _ (fun b hb => by
  have := h b hb
  by_cases e : pairB x y b.1 = true
  · rw [if_pos e, if_pos (hz b.1 e)]; exact Rat.le_refl
  · rw [if_neg e]
    split
    · exact this
    · exact Rat.le_refl)
theorem pair_weigh {B : List Bal} {x y w : Int} {g : Int → Bool} {c q : Rat} (h : g x = false ∨ g y = false) (hwx : w ≠ x) (hwy : w ≠ y) : pairR (weighR B g w c q) x y = pairR B x y := by
  unfold pairR weighR
  rw [List.map_map]
  refine sumR_congr B _ _ (fun b _ => ?_)
  show (if pairB x y (if fstC b.1 g = w then (b.1, b.2 * ((c - q) / c)) else b).1 = true then (if fstC b.1 g = w then (b.1, b.2 * ((c - q) / c)) else b).2 else 0) = _
  by_cases e : fstC b.1 g = w
  · rw [if_pos e]
    by_cases p : pairB x y b.1 = true
    · exfalso
      rcases (pair_first (g := g) p).2.2 h with k | k
      · exact hwx (by rw [← e, k])
      · exact hwy (by rw [← e, k])
    · rw [if_neg p, if_neg p]
  · rw [if_neg e]
/-- **A solid group gets a seat** (promise 81). -/
theorem solid {lots : List Int} {q : Rat} (hn : lots.Nodup) (hq : 0 < q) {x y : Int} (hx : x ∈ lots) (hy : y ∈ lots) : ∀ (f : Nat) (g : Int → Bool) (B : List Bal) (s : Nat), (thereL lots g).length ≤ f → ValR B → q ≤ pairR B x y →
    allR B < ((s : Rat) + 1) * q → (g x = false ∨ g y = false) → x ∈ winT (runT lots q f g B s) ∨ y ∈ winT (runT lots q f g B s)
  | 0, g, B, s, h1, _, _, _, hg => by
    have : thereL lots g = [] := List.length_eq_zero_iff.1 (by omega)
    rcases hg with e | e
    · have : x ∈ thereL lots g := there_mem.2 ⟨hx, e⟩
      rw [‹thereL lots g = []›] at this; cases this
    · have : y ∈ thereL lots g := there_mem.2 ⟨hy, e⟩
      rw [‹thereL lots g = []›] at this; cases this
  | f + 1, g, B, s, h1, hV, hP, hA, hg => by
    have hPA := pair_le_all hV x y
    have hs : s ≠ 0 := fun e => by
      subst e
      have : ((0 : Nat) : Rat) = 0 := rfl
      rw [this] at hA
      grind
    have hz : ∃ z, z ∈ thereL lots g := by
      rcases hg with e | e
      · exact ⟨x, there_mem.2 ⟨hx, e⟩⟩
      · exact ⟨y, there_mem.2 ⟨hy, e⟩⟩
    obtain ⟨z0, hz0⟩ := hz
    have hne : thereL lots g ≠ [] := fun e => by rw [e] at hz0; cases hz0
    obtain ⟨hm, hmax⟩ := most_spec (cntR B g) hne
    obtain ⟨hl, _⟩ := least_spec (cntR B g) hne
    have l1 := there_less hn hm
    have l2 := there_less hn hl
    unfold runT
    rw [if_neg hs]
    by_cases hqc : q ≤ cntR B g (mostQ lots g (cntR B g))
    · rw [if_pos hqc, winT_cons, if_neg (by simp)]
      by_cases hwx : mostQ lots g (cntR B g) = x
      · left; rw [hwx]; simp
      · by_cases hwy : mostQ lots g (cntR B g) = y
        · right; rw [hwy]; simp
        · have hs1 : ((s - 1 : Nat) : Rat) + 1 = (s : Rat) := by
            obtain ⟨k, rfl⟩ : ∃ k, s = k + 1 := ⟨s - 1, by omega⟩
            rw [Nat.add_sub_cancel]
            exact (Rat.natCast_add k 1).symm
          have := solid hn hq hx hy f (goneP g (mostQ lots g (cntR B g))) (weighR B g (mostQ lots g (cntR B g)) (cntR B g (mostQ lots g (cntR B g))) q) (s - 1) (by omega) (weigh_val hq hqc hV)
            (by rw [pair_weigh hg hwx hwy]; exact hP) (by rw [weigh_all hq hqc, hs1]; grind)
            (by rw [gone_not (Ne.symm hwx), gone_not (Ne.symm hwy)]; exact hg)
          rcases this with e | e
          · exact .inl (List.mem_cons_of_mem _ e)
          · exact .inr (List.mem_cons_of_mem _ e)
    · rw [if_neg hqc]
      by_cases hr : (thereL lots g).length ≤ s
      · have hall := fun z hz => rest_all (q := q) hn (f + 1) g B s z h1 hr hz
        unfold runT at hall
        simp only [if_neg hs, if_neg hqc, if_pos hr] at hall
        rw [if_pos hr]
        rcases hg with e | e
        · exact .inl (hall x (there_mem.2 ⟨hx, e⟩))
        · exact .inr (hall y (there_mem.2 ⟨hy, e⟩))
      · rw [if_neg hr, winT_cons, if_pos rfl]
        have hboth : g x = false ∧ g y = false := by
          cases ex : g x <;> cases ey : g y
          · exact ⟨rfl, rfl⟩
          · exfalso
            have h2 := pair_le_cnt hV (g := g) (z := x) (x := x) (y := y) (fun b hb => (pair_first hb).1 ⟨ex, ey⟩)
            have h3 := hmax x (there_mem.2 ⟨hx, ex⟩)
            grind
          · exfalso
            have h2 := pair_le_cnt hV (g := g) (z := y) (x := x) (y := y) (fun b hb => (pair_first hb).2.1 ⟨ey, ex⟩)
            have h3 := hmax y (there_mem.2 ⟨hy, ey⟩)
            grind
          · rw [ex, ey] at hg; rcases hg with e | e <;> cases e
        have hg' : goneP g (leastQ lots g (cntR B g)) x = false ∨ goneP g (leastQ lots g (cntR B g)) y = false := by
          by_cases hxy : x = y
          · subst hxy
            exfalso
            -- a ballot names nobody twice: here the pair is one candidate, and his count is the pair's worth
            have h2 := pair_le_cnt hV (g := g) (z := x) (x := x) (y := x) (fun b hb => by
              rcases (pair_first hb).2.2 (.inl hboth.1) with e | e <;> exact e)
            have h3 := hmax x (there_mem.2 ⟨hx, hboth.1⟩)
            grind
          · by_cases e : x = leastQ lots g (cntR B g)
            · right
              rw [gone_not (fun e2 => hxy (e.trans e2.symm))]; exact hboth.2
            · left; rw [gone_not e]; exact hboth.1
        exact solid hn hq hx hy f _ B s (by omega) hV hP hA hg'

end Go.Proofs.Yteomnjakcnfchaa
