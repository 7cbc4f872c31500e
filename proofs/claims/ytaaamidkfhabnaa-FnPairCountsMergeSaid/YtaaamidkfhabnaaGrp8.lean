/-
  Whom a ballot prefers, as lists. Of no memory.
  Preferences of pairs as a table of numbers: whom one reaches, the strongest paths, the top, the best ones. Of no memory.
  A table is a function of two candidates; a stage of the program, which writes in place, is the same as one that writes anew: its row and its column keep their numbers.
  Preferences of pairs are counted, as lists: of parts, of merged piles, with two candidates exchanged; the winner of pairs. Of no memory.
  The lists of candidates that PairTop and PairBest return. Of no memory.
  Parts of a list that lies in memory: what is appended of it. No condition but what each theorem says.
-/
import Derived.Test.YtaaamidkfhabnaaGrp1
import Derived.Test.YtaaamidkfhabnaaBase
import Derived.Test.YtaaamidkfhabnaaGrp7
import Derived.Deep.RegionLaw
import Derived.Test.YtaaamidkfhabnaaGrp4
namespace Go.Proofs.Ytaaamidkfhabnaa

/-- The first of x and y in a list is x. -/
def prefL : List Int → Int → Int → Bool
  | [], _, _ => false
  | z :: t, x, y => if z = x then true else if z = y then false else prefL t x y
theorem prefL_app {pre : List Int} {x y : Int} (h : ∀ z ∈ pre, z ≠ x ∧ z ≠ y) (rest : List Int) : prefL (pre ++ rest) x y = prefL rest x y := by
  induction pre with
  | nil => rfl
  | cons z t ih =>
    have hz := h z (by simp)
    rw [List.cons_append, prefL, if_neg hz.1, if_neg hz.2]
    exact ih (fun u hu => h u (by simp [hu]))
/-- **spec.BallotPrefers**, said of lists. -/
def prefB (zs : List Int) (x y : Int) : Bool := if validB zs 5 = true ∧ x ≠ y then prefL zs x y else false

theorem prefL_anti (x y : Int) (hxy : x ≠ y) : ∀ zs : List Int, prefL zs x y = true → prefL zs y x = false
  | [], h => by cases h
  | z :: t, h => by
    by_cases hx : z = x
    · have hy : z ≠ y := by rw [hx]; exact hxy
      rw [prefL, if_neg hy, if_pos hx]
    · by_cases hy : z = y
      · rw [prefL, if_neg hx, if_pos hy] at h; cases h
      · rw [prefL, if_neg hx, if_neg hy] at h
        rw [prefL, if_neg hy, if_neg hx]
        exact prefL_anti x y hxy t h
theorem prefB_anti {zs : List Int} {x y : Int} (h : prefB zs x y = true) : prefB zs y x = false ∧ x ≠ y := by
  unfold prefB at h ⊢
  split at h
  · next hc => exact ⟨by rw [if_pos ⟨hc.1, fun e => hc.2 e.symm⟩]; exact prefL_anti x y hc.2 zs h, hc.2⟩
  · cases h

theorem prefL_alt (x y : Int) (hxy : x ≠ y) : ∀ zs : List Int, prefL zs x y = (hasB zs x && !prefL zs y x)
  | [] => rfl
  | z :: t => by
    have ih := prefL_alt x y hxy t
    by_cases hx : z = x
    · have hy : z ≠ y := by rw [hx]; exact hxy
      rw [prefL, if_pos hx, prefL, if_neg hy, if_pos hx]
      simp [hasB, hx]
    · by_cases hy : z = y
      · rw [prefL, if_neg hx, if_pos hy, prefL, if_pos hy]
        simp
      · rw [prefL, if_neg hx, if_neg hy, prefL, if_neg hy, if_neg hx, ih]
        have e : hasB (z :: t) x = hasB t x := by
          unfold hasB
          rw [List.contains_cons]
          have : (x == z) = false := by simpa using fun e => hx e.symm
          rw [this, Bool.false_or]
        rw [e]

theorem prefL_map {f : Int → Int} (hf : ∀ a b, f a = f b → a = b) (x y : Int) : ∀ zs : List Int, prefL (zs.map f) (f x) (f y) = prefL zs x y
  | [] => rfl
  | z :: t => by
    have ih := prefL_map hf x y t
    rw [List.map_cons, prefL, prefL, ih]
    by_cases hx : z = x
    · rw [if_pos hx, if_pos (by rw [hx])]
    · rw [if_neg hx, if_neg (fun e => hx (hf _ _ e))]
      by_cases hy : z = y
      · rw [if_pos hy, if_pos (by rw [hy])]
      · rw [if_neg hy, if_neg (fun e => hy (hf _ _ e))]
theorem prefL_named : ∀ {zs : List Int} {x y : Int}, prefL zs x y = true → x ∈ zs
  | [], x, y, h => by cases h
  | z :: t, x, y, h => by
    unfold prefL at h
    by_cases hx : z = x
    · simp [hx]
    · rw [if_neg hx] at h
      by_cases hy : z = y
      · rw [if_pos hy] at h; cases h
      · rw [if_neg hy] at h
        simp [prefL_named h]

end Go.Proofs.Ytaaamidkfhabnaa

namespace Go.Proofs.Ytaaamidkfhabnaa

/-! ### Whom one reaches. -/
def stageB (R : Nat → Nat → Bool) (k : Nat) : Nat → Nat → Bool := fun x y => R x y || (R x k && R k y)
theorem stageB_row (R : Nat → Nat → Bool) (k y : Nat) : stageB R k k y = R k y := by
  unfold stageB; cases R k y <;> cases R k k <;> rfl
theorem stageB_col (R : Nat → Nat → Bool) (k x : Nat) : stageB R k x k = R x k := by
  unfold stageB; cases R x k <;> cases R k k <;> rfl
def reachTo (R : Nat → Nat → Bool) : Nat → Nat → Nat → Bool
  | 0 => R
  | k + 1 => stageB (reachTo R k) k
theorem reachTo_zero (R : Nat → Nat → Bool) : reachTo R 0 = R := rfl
theorem reachTo_succ (R : Nat → Nat → Bool) (k : Nat) : reachTo R (k + 1) = stageB (reachTo R k) k := rfl
theorem reach_step {R : Nat → Nat → Bool} {x y : Nat} (h : R x y = true) : ∀ k, reachTo R k x y = true
  | 0 => h
  | k + 1 => by rw [reachTo_succ]; unfold stageB; rw [reach_step h k]; rfl
theorem stageB_iff (R : Nat → Nat → Bool) (k x y : Nat) : stageB R k x y = true ↔ R x y = true ∨ (R x k = true ∧ R k y = true) := by
  unfold stageB; simp
/-- Steps are put together. -/
theorem reach_trans {R : Nat → Nat → Bool} : ∀ (k j : Nat), j < k → ∀ x y, reachTo R k x j = true → reachTo R k j y = true → reachTo R k x y = true
  | 0, j, hj, _, _, _, _ => by omega
  | k + 1, j, hj, x, y, h1, h2 => by
    rw [reachTo_succ] at h1 h2 ⊢
    by_cases e : j = k
    · subst e
      rw [stageB_col] at h1
      rw [stageB_row] at h2
      exact (stageB_iff _ _ _ _).2 (.inr ⟨h1, h2⟩)
    · have ih := reach_trans (R := R) k j (by omega)
      rcases (stageB_iff _ _ _ _).1 h1 with a | ⟨a, b⟩
      · rcases (stageB_iff _ _ _ _).1 h2 with c | ⟨c, d⟩
        · exact (stageB_iff _ _ _ _).2 (.inl (ih x y a c))
        · exact (stageB_iff _ _ _ _).2 (.inr ⟨ih x k a c, d⟩)
      · rcases (stageB_iff _ _ _ _).1 h2 with c | ⟨c, d⟩
        · exact (stageB_iff _ _ _ _).2 (.inr ⟨a, ih k y b c⟩)
        · exact (stageB_iff _ _ _ _).2 (.inr ⟨a, d⟩)
/-- The last step of a way. -/
theorem reach_last {R : Nat → Nat → Bool} {n : Nat} : ∀ k, k ≤ n → ∀ x y, x < n → x ≠ y → reachTo R k x y = true → ∃ j, j < n ∧ j ≠ y ∧ R j y = true
  | 0, _, x, y, hx, hxy, h => ⟨x, hx, hxy, h⟩
  | k + 1, hk, x, y, hx, hxy, h => by
    rw [reachTo_succ] at h
    rcases (stageB_iff _ _ _ _).1 h with a | ⟨a, b⟩
    · exact reach_last k (by omega) x y hx hxy a
    · by_cases e : k = y
      · subst e; exact reach_last k (by omega) x k hx hxy a
      · exact reach_last k (by omega) k y (by omega) e b

/-- Who is not beaten by whom. -/
def atLeast (m : Nat → Nat → Int) (x y : Nat) : Bool := decide (m y x ≤ m x y)
def reachL (m : Nat → Nat → Int) (n : Nat) : Nat → Nat → Bool := reachTo (atLeast m) n
/-- x is one of the top. -/
def IsTop (m : Nat → Nat → Int) (n x : Nat) : Prop := ∀ y, y < n → reachL m n x y = true
theorem reach_of {m : Nat → Nat → Int} {n x y : Nat} (h : m y x ≤ m x y) : reachL m n x y = true := reach_step (by unfold atLeast; exact decide_eq_true h) n
theorem reachL_trans {m : Nat → Nat → Int} {n x j y : Nat} (hj : j < n) (h1 : reachL m n x j = true) (h2 : reachL m n j y = true) : reachL m n x y = true := reach_trans n j hj x y h1 h2
/-- **Each one of the top is preferred to all others.** -/
theorem top_beats {m : Nat → Nat → Int} {n x y : Nat} (hx : x < n) (h : IsTop m n x) (hy : ¬ IsTop m n y) : m y x < m x y := by
  rcases Int.lt_or_le (m y x) (m x y) with g | g
  · exact g
  · exact absurd (fun z hz => reachL_trans hx (reach_of g) (h z hz)) hy
/-- **The top is as small as possible.** -/
theorem top_least {m : Nat → Nat → Int} {n i k : Nat} (hi : i < n) (h : IsTop m n i) (hk : k < n) (hki : k ≠ i) (h2 : IsTop m n k) : ∃ j, j < n ∧ j ≠ i ∧ IsTop m n j ∧ m i j ≤ m j i := by
  obtain ⟨j, hj, hji, hr⟩ := reach_last (R := atLeast m) (n := n) n (Nat.le_refl _) k i hk hki (h2 i hi)
  have hr' : m i j ≤ m j i := of_decide_eq_true hr
  exact ⟨j, hj, hji, fun z hz => reachL_trans hi (reach_of hr') (h z hz), hr'⟩
/-- There is a top. -/
theorem top_some (m : Nat → Nat → Int) {n : Nat} (hn : 0 < n) : ∃ x, x < n ∧ IsTop m n x := by
  have key : ∀ k, k < n → ∃ x, x < n ∧ ∀ y, y ≤ k → reachL m n x y = true := by
    intro k
    induction k with
    | zero => intro _; exact ⟨0, hn, fun y hy => by obtain rfl : y = 0 := by omega
                                                    exact reach_of (Int.le_refl _)⟩
    | succ k ih =>
      intro hk
      obtain ⟨x, hx, h⟩ := ih (by omega)
      rcases Int.lt_or_le (m x (k + 1)) (m (k + 1) x) with g | g
      · refine ⟨k + 1, hk, fun y hy => ?_⟩
        by_cases e : y = k + 1
        · subst e; exact reach_of (Int.le_refl _)
        · exact reachL_trans hx (reach_of (Int.le_of_lt g)) (h y (by omega))
      · refine ⟨x, hx, fun y hy => ?_⟩
        by_cases e : y = k + 1
        · subst e; exact reach_of g
        · exact h y (by omega)
  obtain ⟨x, hx, h⟩ := key (n - 1) (by omega)
  exact ⟨x, hx, fun y hy => h y (by omega)⟩
/-- Who is preferred to each other one. -/
def Wins (m : Nat → Nat → Int) (n w : Nat) : Prop := ∀ y, y < n → y ≠ w → m y w < m w y
theorem wins_one {m : Nat → Nat → Int} {n v w : Nat} (hv : v < n) (hw : w < n) (h1 : Wins m n v) (h2 : Wins m n w) : v = w := by
  rcases Nat.lt_trichotomy v w with g | g | g
  · have a := h1 w hw (by omega); have b := h2 v hv (by omega); omega
  · exact g
  · have a := h1 w hw (by omega); have b := h2 v hv (by omega); omega
theorem wins_top {m : Nat → Nat → Int} {n w : Nat} (hw : w < n) (h : Wins m n w) {x : Nat} (hx : x < n) : IsTop m n x ↔ x = w := by
  constructor
  · intro ht
    by_cases e : x = w
    · exact e
    · obtain ⟨j, hj, hjw, hr⟩ := reach_last (R := atLeast m) (n := n) n (Nat.le_refl _) x w hx e (ht w hw)
      have hr' : m w j ≤ m j w := of_decide_eq_true hr
      have := h j hj hjw
      omega
  · rintro rfl y hy
    by_cases e : y = x
    · subst e; exact reach_of (Int.le_refl _)
    · exact reach_of (Int.le_of_lt (h y hy e))

/-! ### The strongest paths. -/
def stageI (M : Nat → Nat → Int) (k : Nat) : Nat → Nat → Int := fun x y => if x = y then M x y else max (M x y) (min (M x k) (M k y))
theorem stageI_row (M : Nat → Nat → Int) (k y : Nat) : stageI M k k y = M k y := by unfold stageI; split <;> omega
theorem stageI_col (M : Nat → Nat → Int) (k x : Nat) : stageI M k x k = M x k := by unfold stageI; split <;> omega
theorem stageI_diag (M : Nat → Nat → Int) (k x : Nat) : stageI M k x x = M x x := by unfold stageI; rw [if_pos rfl]
theorem stageI_ne (M : Nat → Nat → Int) (k : Nat) {x y : Nat} (h : x ≠ y) : stageI M k x y = max (M x y) (min (M x k) (M k y)) := by unfold stageI; rw [if_neg h]
theorem stageI_up (M : Nat → Nat → Int) (k x y : Nat) : M x y ≤ stageI M k x y := by unfold stageI; split <;> omega
/-- The table of steps. -/
def steps (m : Nat → Nat → Int) : Nat → Nat → Int := fun x y => if m y x < m x y then m x y else 0
def pathTo (m : Nat → Nat → Int) : Nat → Nat → Nat → Int
  | 0 => steps m
  | k + 1 => stageI (pathTo m k) k
theorem pathTo_succ (m : Nat → Nat → Int) (k : Nat) : pathTo m (k + 1) = stageI (pathTo m k) k := rfl
theorem path_diag (m : Nat → Nat → Int) (x : Nat) : ∀ k, pathTo m k x x = 0
  | 0 => by show steps m x x = 0; unfold steps; rw [if_neg (by omega)]
  | k + 1 => by rw [pathTo_succ, stageI_diag, path_diag m x k]
theorem path_low {m : Nat → Nat → Int} (hm : ∀ x y, 0 ≤ m x y) (x y : Nat) : ∀ k, 0 ≤ pathTo m k x y
  | 0 => by show 0 ≤ steps m x y; unfold steps; have := hm x y; split <;> omega
  | k + 1 => by have := stageI_up (pathTo m k) k x y; have := path_low hm x y k; rw [pathTo_succ]; omega
theorem path_step {m : Nat → Nat → Int} {x y : Nat} (h : m y x < m x y) : ∀ k, m x y ≤ pathTo m k x y
  | 0 => by show m x y ≤ steps m x y; unfold steps; rw [if_pos h]; exact Int.le_refl _
  | k + 1 => by have := stageI_up (pathTo m k) k x y; have := path_step h k; rw [pathTo_succ]; omega
/-- **A path is as strong as its weakest step.** -/
theorem path_trans {m : Nat → Nat → Int} : ∀ (k j : Nat), j < k → ∀ x y, x ≠ y → j ≠ x → j ≠ y → min (pathTo m k x j) (pathTo m k j y) ≤ pathTo m k x y
  | 0, j, hj, _, _, _, _, _ => by omega
  | k + 1, j, hj, x, y, hxy, hjx, hjy => by
    have ih := path_trans (m := m) k
    rw [pathTo_succ]
    generalize pathTo m k = M at ih
    rw [stageI_ne M k hxy, stageI_ne M k (Ne.symm hjx), stageI_ne M k hjy]
    by_cases e : j = k
    · subst e; omega
    · have a := ih j (by omega) x y hxy hjx hjy
      by_cases exk : x = k
      · subst exk
        omega
      · have b := ih j (by omega) x k exk hjx e
        by_cases eyk : y = k
        · subst eyk; omega
        · have c := ih j (by omega) k y (fun g => eyk g.symm) e hjy
          omega
/-- **A path has steps.** -/
theorem path_first {m : Nat → Nat → Int} (hm : ∀ x y, 0 ≤ m x y) {n : Nat} : ∀ k, k ≤ n → ∀ x y, x ≠ y → pathTo m k x y = 0 ∨ (m y x < m x y ∧ m x y = pathTo m k x y) ∨ ∃ j, j < n ∧ j ≠ x ∧ j ≠ y ∧ m j x < m x j ∧ pathTo m k x y ≤ m x j ∧ pathTo m k x y ≤ pathTo m k j y
  | 0, _, x, y, _ => by
    by_cases h : m y x < m x y
    · exact .inr (.inl ⟨h, by show m x y = steps m x y; unfold steps; rw [if_pos h]⟩)
    · exact .inl (by show steps m x y = 0; unfold steps; rw [if_neg h])
  | k + 1, hk, x, y, hxy => by
    have ih := path_first hm (n := n) k (by omega)
    have hd := fun z => path_diag m z k
    have hl := fun x y => path_low hm x y k
    have hs := fun {x y : Nat} (h : m y x < m x y) => path_step h k
    rw [pathTo_succ]
    generalize pathTo m k = M at ih hd hl hs
    have hup := stageI_up M k
    by_cases h : min (M x k) (M k y) ≤ M x y
    · have e : stageI M k x y = M x y := by rw [stageI_ne M k hxy]; omega
      rw [e]
      rcases ih x y hxy with a | ⟨a, b⟩ | ⟨j, h1, h2, h3, h4, h5, h6⟩
      · exact .inl a
      · exact .inr (.inl ⟨a, b⟩)
      · exact .inr (.inr ⟨j, h1, h2, h3, h4, h5, by have := hup j y; omega⟩)
    · have e : stageI M k x y = min (M x k) (M k y) := by rw [stageI_ne M k hxy]; omega
      have h0 := hl x y
      have hxk : x ≠ k := by rintro rfl; have := hd x; omega
      have hky : k ≠ y := by rintro rfl; have := hd k; omega
      rw [e]
      right; right
      rcases ih x k hxk with a | ⟨a, b⟩ | ⟨j, h1, h2, h3, h4, h5, h6⟩
      · omega
      · exact ⟨k, by omega, hxk.symm, hky, a, by omega, by have := hup k y; omega⟩
      · by_cases ejy : j = y
        · subst ejy
          have := hs h4
          omega
        · refine ⟨j, h1, h2, ejy, h4, by omega, ?_⟩
          have : stageI M k j y = max (M j y) (min (M j k) (M k y)) := stageI_ne M k ejy
          omega
def pathL (m : Nat → Nat → Int) (n : Nat) : Nat → Nat → Int := pathTo m n
/-- x is one of the best. -/
def IsBest (m : Nat → Nat → Int) (n x : Nat) : Prop := ∀ y, y < n → pathL m n y x ≤ pathL m n x y
/-- Nobody comes back into the top. -/
theorem path_none {m : Nat → Nat → Int} (hm : ∀ x y, 0 ≤ m x y) {T : Nat → Prop} {n : Nat} (hT : ∀ x y, x < n → y < n → ¬ T x → T y → m x y < m y x) : ∀ k, k ≤ n → ∀ x y, x < n → y < n → ¬ T x → T y → pathTo m k x y = 0
  | 0, _, x, y, hx, hy, h1, h2 => by
    show steps m x y = 0
    unfold steps
    rw [if_neg (by have := hT x y hx hy h1 h2; omega)]
  | k + 1, hk, x, y, hx, hy, h1, h2 => by
    have ih := path_none hm hT k (by omega)
    have hl := fun x y => path_low hm x y k
    have hxy : x ≠ y := fun e => h1 (e ▸ h2)
    rw [pathTo_succ, stageI_ne _ _ hxy, ih x y hx hy h1 h2]
    have a := hl x k
    have b := hl k y
    rcases Classical.em (T k) with g | g
    · have := ih x k hx (by omega) h1 g; omega
    · have := ih k y (by omega) hy g h2; omega
/-- **The best ones are some of the top.** -/
theorem best_top {m : Nat → Nat → Int} (hm : ∀ x y, 0 ≤ m x y) {n x : Nat} (hx : x < n) (h : IsBest m n x) : IsTop m n x := by
  rcases Classical.em (IsTop m n x) with g | g
  · exact g
  · obtain ⟨y, hy, ht⟩ := top_some m (n := n) (by omega)
    have h1 := path_none hm (T := IsTop m n) (n := n) (fun a b ha hb h1 h2 => top_beats hb h2 h1) n (Nat.le_refl _) x y hx hy g ht
    have h2 := path_step (top_beats hy ht g) n
    have h3 := h y hy
    have h4 := hm x y
    have h5 := top_beats hy ht g
    unfold pathL at h3
    omega
/-- **A winner of pairs is the best one alone.** -/
theorem wins_best {m : Nat → Nat → Int} (hm : ∀ x y, 0 ≤ m x y) {n w : Nat} (hw : w < n) (h : Wins m n w) {x : Nat} (hx : x < n) : IsBest m n x ↔ x = w := by
  constructor
  · intro hb
    exact (wins_top hw h hx).1 (best_top hm hx hb)
  · rintro rfl y hy
    by_cases e : y = x
    · subst e; exact Int.le_refl _
    · have h1 := path_none hm (T := fun z => z = x) (n := n) (fun a b ha hb h1 h2 => by subst h2; exact h a ha h1) n (Nat.le_refl _) y x hy hx e rfl
      have h2 := path_low hm x y n
      unfold pathL
      omega

end Go.Proofs.Ytaaamidkfhabnaa

namespace Go.Proofs.Ytaaamidkfhabnaa

/-- Whether a text prefers x to y. -/
def prefF (x y : Nat) (t : ByteArray) : Int := if prefB (parseL t) (x : Int) (y : Int) = true then 1 else 0
def pairF (ps : List Pl) (x y : Nat) : Int := wsum (prefF x y) ps
theorem prefF_low (x y : Nat) (t : ByteArray) : 0 ≤ prefF x y t := by unfold prefF; split <;> omega
theorem prefF_self (x : Nat) (t : ByteArray) : prefF x x t = 0 := by
  unfold prefF prefB
  rw [if_neg]
  split
  · next h => exact absurd rfl h.2
  · simp
theorem prefF_two (x y : Nat) (t : ByteArray) : prefF x y t + prefF y x t ≤ 1 := by
  unfold prefF
  by_cases h : prefB (parseL t) (x : Int) (y : Int) = true
  · rw [if_pos h, if_neg (by rw [(prefB_anti h).1]; simp)]; omega
  · rw [if_neg h]; split <;> omega
/-- **A ballot prefers one of two, or none.** -/
theorem pairF_low {ps : List Pl} (hp : ∀ p ∈ ps, 1 ≤ p.2) (x y : Nat) : 0 ≤ pairF ps x y := wsum_nonneg (fun _ _ => prefF_low _ _ _) hp
theorem pairF_self (ps : List Pl) (x : Nat) : pairF ps x x = 0 := by
  rw [pairF, ← wsum_zero ps]
  exact wsum_congr (fun p _ => prefF_self x p.1)
theorem pairF_two {ps : List Pl} (hp : ∀ p ∈ ps, 1 ≤ p.2) (x y : Nat) : pairF ps x y + pairF ps y x ≤ sumL ps := by
  rw [pairF, pairF, ← wsum_add]
  exact wsum_most (fun p _ => prefF_two x y p.1) hp
/-- **Counts of parts add up.** -/
theorem pairF_parts (a b : List Pl) (x y : Nat) : pairF (a ++ b) x y = pairF a x y + pairF b x y := wsum_app _ _ _
theorem pairF_merge (a b : List Pl) (x y : Nat) : pairF (mergeL a b) x y = pairF a x y + pairF b x y := wsum_merge _ _ _
theorem pairF_snoc (a : List Pl) (p : Pl) (x y : Nat) : pairF (a ++ [p]) x y = pairF a x y + (if prefB (parseL p.1) (x : Int) (y : Int) = true then p.2 else 0) := by
  rw [pairF, wsum_snoc, pairF, prefF]
  split
  · rw [Int.one_mul]
  · rw [Int.zero_mul]
theorem pairF_turn {ps : List Pl} {x y : Int} (hx : 0 ≤ x ∧ x ≤ 4) (hy : 0 ≤ y ∧ y ≤ 4) (hv : ∀ p ∈ ps, validB (nums p.1) 5 = true) (a b : Nat) : pairF (turnPs x y ps) (swapC x y (a : Int)).toNat (swapC x y (b : Int)).toNat = pairF ps a b := by
  rw [pairF, wsum_turn]
  refine wsum_congr (fun p hp => ?_)
  have h5 := hv p hp
  have ea := Int.toNat_of_nonneg (swapC_low hx.1 hy.1 (Int.natCast_nonneg a))
  have eb := Int.toNat_of_nonneg (swapC_low hx.1 hy.1 (Int.natCast_nonneg b))
  have h6 := turnB_valid hx hy h5
  unfold prefF prefB
  rw [parse_turn hx hy h5, ea, eb, parseL_ok h5, h5, h6]
  have e1 : prefL (turnB x y (nums p.1)) (swapC x y (a : Int)) (swapC x y (b : Int)) = prefL (nums p.1) (a : Int) (b : Int) := prefL_map (fun u v => swapC_inj) _ _ _
  rw [e1]
  by_cases e : (a : Int) = (b : Int)
  · simp [e]
  · have e2 : ¬ swapC x y (a : Int) = swapC x y (b : Int) := fun g => e (swapC_inj g)
    simp only [ne_eq, e, e2, not_false_eq_true, and_self, if_true]
/-- **Candidates are treated alike.** -/
theorem wins_turn {ps : List Pl} {x y : Int} {n : Nat} (hn : n ≤ 5) (hx : 0 ≤ x ∧ x < (n : Int)) (hy : 0 ≤ y ∧ y < (n : Int)) (hv : ∀ p ∈ ps, validB (nums p.1) 5 = true) {w : Nat} (h : Wins (pairF ps) n w) : Wins (pairF (turnPs x y ps)) n (swapC x y (w : Int)).toNat := by
  intro z hz hne
  have hs0 := swapC_low hx.1 hy.1 (Int.natCast_nonneg z)
  have hs1 := swapC_high hx.2 hy.2 (show (z : Int) < (n : Int) by omega)
  have hw0 := swapC_low hx.1 hy.1 (Int.natCast_nonneg w)
  have e : (swapC x y (((swapC x y (z : Int)).toNat : Nat) : Int)).toNat = z := by rw [Int.toNat_of_nonneg hs0, swapC_twice, Int.toNat_natCast]
  have h1 := pairF_turn (ps := ps) (x := x) (y := y) (by omega) (by omega) hv (swapC x y (z : Int)).toNat w
  have h2 := pairF_turn (ps := ps) (x := x) (y := y) (by omega) (by omega) hv w (swapC x y (z : Int)).toNat
  rw [e] at h1 h2
  rw [h1, h2]
  refine h _ (by omega) (fun g => hne ?_)
  have g2 : swapC x y (z : Int) = (w : Int) := by omega
  rw [← g2, swapC_twice, Int.toNat_natCast]

end Go.Proofs.Ytaaamidkfhabnaa

namespace Go.Proofs.Ytaaamidkfhabnaa

/-- The candidates of whom something holds, in ascending order: the first k. -/
def candTo (B : Nat → Bool) (k : Nat) : List Int := ((List.range k).filter B).map fun (x : Nat) => (x : Int)
theorem candTo_zero (B : Nat → Bool) : candTo B 0 = [] := rfl
theorem candTo_yes {B : Nat → Bool} {k : Nat} (h : B k = true) : candTo B (k + 1) = candTo B k ++ [(k : Int)] := by
  unfold candTo; rw [List.range_succ, List.filter_append, List.map_append]; simp [h]
theorem candTo_no {B : Nat → Bool} {k : Nat} (h : B k = false) : candTo B (k + 1) = candTo B k := by
  unfold candTo; rw [List.range_succ, List.filter_append, List.map_append]; simp [h]
theorem candTo_short (B : Nat → Bool) (k : Nat) : (candTo B k).length ≤ k := by
  unfold candTo; rw [List.length_map]; exact Nat.le_trans (List.length_filter_le _ _) (by simp)
theorem candTo_congr {B B' : Nat → Bool} {k : Nat} (h : ∀ x, x < k → B x = B' x) : candTo B k = candTo B' k := by
  unfold candTo
  rw [List.filter_congr (fun x hx => h x (List.mem_range.1 hx))]
theorem candTo_mem {B : Nat → Bool} {n : Nat} {z : Int} : z ∈ candTo B n ↔ ∃ x : Nat, x < n ∧ B x = true ∧ z = (x : Int) := by
  unfold candTo
  simp only [List.mem_map, List.mem_filter, List.mem_range]
  constructor
  · rintro ⟨x, ⟨h1, h2⟩, rfl⟩; exact ⟨x, h1, h2, rfl⟩
  · rintro ⟨x, h1, h2, rfl⟩; exact ⟨x, ⟨h1, h2⟩, rfl⟩
theorem candTo_has {B : Nat → Bool} {n x : Nat} (hx : x < n) : (x : Int) ∈ candTo B n ↔ B x = true := by
  rw [candTo_mem]
  constructor
  · rintro ⟨y, _, h, e⟩
    obtain rfl : x = y := by omega
    exact h
  · intro h; exact ⟨x, hx, h, rfl⟩
theorem candTo_asc (B : Nat → Bool) (n : Nat) : (candTo B n).Pairwise (· < ·) := by
  unfold candTo
  rw [List.pairwise_map]
  refine List.Pairwise.imp (R := (· < ·)) (fun h => by omega) ?_
  exact List.Pairwise.filter _ (List.pairwise_lt_range)

/-- All of the first k. -/
def allTo (f : Nat → Bool) (k : Nat) : Bool := (List.range k).all f
theorem allTo_zero (f : Nat → Bool) : allTo f 0 = true := rfl
theorem allTo_succ (f : Nat → Bool) (k : Nat) : allTo f (k + 1) = (allTo f k && f k) := by unfold allTo; simp [List.range_succ]
theorem allTo_iff (f : Nat → Bool) (k : Nat) : allTo f k = true ↔ ∀ y, y < k → f y = true := by unfold allTo; simp
theorem allTo_congr {f f' : Nat → Bool} {k : Nat} (h : ∀ y, y < k → f y = f' y) : allTo f k = allTo f' k := by
  cases e : allTo f' k
  · cases e2 : allTo f k
    · rfl
    · have h1 := (allTo_iff f k).1 e2
      have : allTo f' k = true := (allTo_iff f' k).2 (fun y hy => by rw [← h y hy]; exact h1 y hy)
      rw [e] at this; cases this
  · exact (allTo_iff f k).2 (fun y hy => by rw [h y hy]; exact (allTo_iff f' k).1 e y hy)

def ptopB (M : Nat → Nat → Int) (n x : Nat) : Bool := allTo (fun y => reachL M n x y) n
theorem ptopB_iff (M : Nat → Nat → Int) (n x : Nat) : ptopB M n x = true ↔ IsTop M n x := allTo_iff _ _
def pbestB (M : Nat → Nat → Int) (n x : Nat) : Bool := allTo (fun y => decide (pathL M n y x ≤ pathL M n x y)) n
theorem pbestB_iff (M : Nat → Nat → Int) (n x : Nat) : pbestB M n x = true ↔ IsBest M n x := by
  unfold pbestB IsBest; rw [allTo_iff]
  exact ⟨fun h y hy => of_decide_eq_true (h y hy), fun h y hy => decide_eq_true (h y hy)⟩
/-- What PairTop and PairBest return. -/
def ptopF (ps : List Pl) (n : Int) : List Int := if fitsB ps n = true then candTo (ptopB (pairF ps) n.toNat) n.toNat else []
def pbestF (ps : List Pl) (n : Int) : List Int := if fitsB ps n = true then candTo (pbestB (pairF ps) n.toNat) n.toNat else []

end Go.Proofs.Ytaaamidkfhabnaa

namespace Go.Proofs.Ytaaamidkfhabnaa
open Go.RowKit

theorem ints_one (zs : List Int) : ∀ u ∈ zs.map (Value.int .i64), u.oneCell' = true := by
  intro u hu
  obtain ⟨z, _, rfl⟩ := List.mem_map.1 hu
  simp [Value.oneCell']

/-- The cells behind a piece of a slice of ints: from off + p on, the first m of what is left. -/
theorem piece_cells {w : World} {b off len : Nat} {zs : List Int} (hz : zs.length = len) (hc : ∀ j, j < len → w.cell? ⟨b, off + j, none⟩ = some (.int .i64 (zs[j]?.getD 0))) (p m q : Nat) (hpm : p + m ≤ len) (hq : q = off + p) :
    ∀ j u, (((zs.drop p).take m).map (Value.int .i64))[j]? = some u → w.cell? ((⟨b, q, none⟩ : Addr).add j) = some u := by
  intro j u hj
  have hjm : j < m := by
    rcases Nat.lt_or_ge j m with h | h
    · exact h
    · rw [List.getElem?_eq_none (by simp; omega)] at hj; cases hj
  have hadd : (⟨b, q, none⟩ : Addr).add j = ⟨b, off + (p + j), none⟩ := by
    subst hq
    by_cases h : j = 0
    · subst h; simp [Addr.add]
    · simp [Addr.add, h]; omega
  rw [hadd, hc (p + j) (by omega)]
  rw [List.getElem?_map, List.getElem?_take_of_lt hjm, List.getElem?_drop] at hj
  have hlt : p + j < zs.length := by omega
  rw [List.getElem?_eq_getElem hlt] at hj ⊢
  simpa using hj

/-- .. all that is left from p on. -/
theorem piece_rest {w : World} {b off len : Nat} {zs : List Int} (hz : zs.length = len) (hc : ∀ j, j < len → w.cell? ⟨b, off + j, none⟩ = some (.int .i64 (zs[j]?.getD 0))) (p q : Nat) (hp : p ≤ len) (hq : q = off + p) :
    ∀ j u, ((zs.drop p).map (Value.int .i64))[j]? = some u → w.cell? ((⟨b, q, none⟩ : Addr).add j) = some u := by
  have h := piece_cells hz hc p (len - p) q (by omega) hq
  have e : (zs.drop p).take (len - p) = zs.drop p := List.take_of_length_le (by simp; omega)
  rwa [e] at h
theorem rest_none {zs : List Int} {p : Nat} (hp : zs.length ≤ p) : ∀ (j : Nat) (u : Value), ((zs.drop p).map (Value.int .i64))[j]? = some u → False := by
  intro j u h
  rw [List.drop_of_length_le hp] at h
  simp at h
theorem joined {w : World} {base n c : Nat} {a : Option Addr} {A B : List Int} (h : w.ownsRow base 3 1 (.slice a n c) n (A.map (Value.int .i64) ++ B.map (Value.int .i64))) (hn : n ≤ 1048600) : IsInts w a n c (A ++ B) := by
  refine IsInts.of_owned (base := base) ?_ hn
  rw [List.map_append]
  exact h

/-- An append to a new slice leaves the cells of an older block as they were. -/
theorem kept_cells {w w5 : World} {t : TypeId} {g off len n c : Nat} {zs : List Int} (hg : g < w.heap.size) (h : (w.alloc (.cells #[] t)).drew.grownBy w5 (Value.slice (some ⟨w.heap.size, 0, none⟩) n c).ownBlock)
    (hc : ∀ j, j < len → w.cell? ⟨g, off + j, none⟩ = some (.int .i64 (zs[j]?.getD 0))) : ∀ j, j < len → w5.cell? ⟨g, off + j, none⟩ = some (.int .i64 (zs[j]?.getD 0)) := fun j hj =>
  (World.cell?_of_block (w := w) ((h.block g (by show g < (w.alloc _).heap.size; simp; omega) (fun e => by
    have : (some g : Option Nat) = some w.heap.size := e
    injection this with e2
    omega)).trans (Below.heap_alloc w _ g hg))).trans (hc j hj)
theorem kept_below {w w5 : World} {t : TypeId} {n c : Nat} (h : (w.alloc (.cells #[] t)).drew.grownBy w5 (Value.slice (some ⟨w.heap.size, 0, none⟩) n c).ownBlock) : Below w.heap.size w w5 :=
  ((Below.refl w.heap.size w).alloc (Nat.le_refl _) _).drew.grown h (by show w.heap.size ≤ (w.alloc _).heap.size; simp) (fun k e => by
    have : (some w.heap.size : Option Nat) = some k := e
    injection this with e2
    omega)

end Go.Proofs.Ytaaamidkfhabnaa
