/-
  Seats by divisors: who gets the next one, and that the check holds. Votes and seats are functions of a party's number; lots are a list. Of no memory.
-/
import Derived.Test.YteomnjakcnfchaaLotP
import Derived.Test.YteomnjakcnfchaaSumP
namespace Go.Proofs.Yteomnjakcnfchaa

/-- The divisor of a party with g seats. -/
def divI (m g : Int) : Int := m * g + 1
theorem divI_pos {m g : Int} (hm : 0 ≤ m) (hg : 0 ≤ g) : 0 < divI m g := by
  have := Int.mul_nonneg hm hg
  unfold divI; omega
theorem divI_le {m g h : Int} (hm : 0 ≤ m) (hg : g ≤ h) : divI m g ≤ divI m h := by
  have := Int.mul_le_mul_of_nonneg_left hg hm
  unfold divI; omega
theorem divI_lt {m g h : Int} (hm : 0 < m) (hg : g < h) : divI m g < divI m h := by
  have := Int.mul_lt_mul_of_pos_left hg hm
  unfold divI; omega
theorem cross_lt {va vb vk da db dk : Int} (hda : 0 < da) (hdb : 0 < db) (hdk : 0 < dk) (h1 : va * db ≤ vb * da) (h2 : vb * dk < vk * db) : va * dk < vk * da := by
  have e1 : va * db * dk ≤ vb * da * dk := Int.mul_le_mul_of_nonneg_right h1 (Int.le_of_lt hdk)
  have e2 : vb * dk * da < vk * db * da := Int.mul_lt_mul_of_pos_right h2 hda
  have e3 : va * dk * db < vk * da * db := by
    rw [Int.mul_right_comm va, Int.mul_right_comm vk]
    rw [Int.mul_right_comm vb] at e1
    omega
  exact Int.lt_of_mul_lt_mul_right e3 (Int.le_of_lt hdb)

/-- The party with the greatest quotient: of several ones the first one in the lots. -/
def nextF (V G : Int → Int) (m : Int) : Int → List Int → Int
  | best, [] => best
  | best, k :: t => nextF V G m (if V best * divI m (G k) < V k * divI m (G best) then k else best) t
def nextL (V G : Int → Int) (m : Int) (lots : List Int) : Int := nextF V G m (lots[0]?.getD 0) (lots.drop 1)
/-- No party has a greater quotient, and no earlier one as great a one. -/
def Beats (V G : Int → Int) (m : Int) (lots : List Int) (w i : Int) : Prop := V i * divI m (G w) ≤ V w * divI m (G i) ∧ (V i * divI m (G w) = V w * divI m (G i) → lots.idxOf w ≤ lots.idxOf i)
theorem beats_self (V G : Int → Int) (m : Int) (lots : List Int) (w : Int) : Beats V G m lots w w := ⟨Int.le_refl _, fun _ => Nat.le_refl _⟩
theorem idx_pre {pre t : List Int} {k i : Int} (hn : (pre ++ k :: t).Nodup) (hi : i ∈ pre) : (pre ++ k :: t).idxOf i < (pre ++ k :: t).idxOf k := by
  have hk : k ∉ pre := fun h => by
    rw [List.nodup_append] at hn
    exact hn.2.2 k h k (by simp) rfl
  rw [List.idxOf_append, if_pos hi, List.idxOf_append, if_neg hk]
  have := List.idxOf_lt_length_of_mem hi
  simp
  omega
theorem nextF_spec {V G : Int → Int} {m : Int} (hm : 0 ≤ m) (hG : ∀ z, 0 ≤ G z) : ∀ (t pre : List Int) (best : Int), (pre ++ t).Nodup → best ∈ pre → (∀ i ∈ pre, Beats V G m (pre ++ t) best i) →
    nextF V G m best t ∈ pre ++ t ∧ ∀ i ∈ pre ++ t, Beats V G m (pre ++ t) (nextF V G m best t) i
  | [], pre, best, _, hb, h => by rw [List.append_nil] at *; exact ⟨hb, h⟩
  | k :: t, pre, best, hn, hb, h => by
    have e : pre ++ k :: t = (pre ++ [k]) ++ t := by simp
    have hix : ∀ i ∈ pre, (pre ++ k :: t).idxOf i < (pre ++ k :: t).idxOf k := fun i hi => idx_pre hn hi
    unfold nextF
    by_cases hlt : V best * divI m (G k) < V k * divI m (G best)
    · rw [if_pos hlt]
      have := nextF_spec hm hG t (pre ++ [k]) k (by rw [← e]; exact hn) (by simp) (fun i hi => by
        rw [← e]
        rcases List.mem_append.1 hi with hi | hi
        · have hs := cross_lt (divI_pos hm (hG i)) (divI_pos hm (hG best)) (divI_pos hm (hG k)) (h i hi).1 hlt
          exact ⟨Int.le_of_lt hs, fun e2 => by omega⟩
        · have : i = k := by simpa using hi
          subst this; exact beats_self _ _ _ _ _)
      rwa [← e] at this
    · rw [if_neg hlt]
      have := nextF_spec hm hG t (pre ++ [k]) best (by rw [← e]; exact hn) (by simp [hb]) (fun i hi => by
        rw [← e]
        rcases List.mem_append.1 hi with hi | hi
        · exact h i hi
        · have : i = k := by simpa using hi
          subst this
          exact ⟨by omega, fun _ => Nat.le_of_lt (hix best hb)⟩)
      rwa [← e] at this
/-- **The next seat goes to the greatest quotient** (promise 87). -/
theorem next_spec {V G : Int → Int} {m : Int} {lots : List Int} (hm : 0 ≤ m) (hG : ∀ z, 0 ≤ G z) (hn : lots.Nodup) (h0 : lots ≠ []) : nextL V G m lots ∈ lots ∧ ∀ i ∈ lots, Beats V G m lots (nextL V G m lots) i := by
  match lots, h0 with
  | b :: t, _ =>
    have := nextF_spec (V := V) hm hG t [b] b hn (by simp) (fun i hi => by
      have : i = b := by simpa using hi
      subst this; exact beats_self _ _ _ _ _)
    simpa [nextL] using this

/-- The check: no seat would rather be another party's. -/
def Chk (V G : Int → Int) (m : Int) (lots : List Int) : Prop := ∀ i ∈ lots, ∀ k ∈ lots, 0 < G i → V k * divI m (G i - 1) ≤ V i * divI m (G k)
/-- One seat more. -/
def plus (G : Int → Int) (k : Int) : Int → Int := fun z => if z = k then G z + 1 else G z
theorem plus_at (G : Int → Int) (k : Int) : plus G k k = G k + 1 := by simp [plus]
theorem plus_not {G : Int → Int} {k z : Int} (h : z ≠ k) : plus G k z = G z := by simp [plus, h]
theorem plus_ge (G : Int → Int) (k z : Int) : G z ≤ plus G k z := by unfold plus; split <;> omega
/-- **The next seat keeps the check** (promise 88). -/
theorem chk_next {V G : Int → Int} {m : Int} {lots : List Int} (hm : 0 ≤ m) (hG : ∀ z, 0 ≤ G z) (hV : ∀ z, 0 ≤ V z) (hn : lots.Nodup) (h0 : lots ≠ []) (h : Chk V G m lots) : Chk V (plus G (nextL V G m lots)) m lots := by
  obtain ⟨_, hw⟩ := next_spec (V := V) hm hG hn h0
  obtain ⟨w, hwe⟩ : ∃ w, nextL V G m lots = w := ⟨_, rfl⟩
  rw [hwe] at hw ⊢
  intro i hi k hk hpos
  have hup : V i * divI m (G k) ≤ V i * divI m (plus G w k) := Int.mul_le_mul_of_nonneg_left (divI_le hm (plus_ge G w k)) (hV i)
  by_cases e : i = w
  · subst e
    rw [plus_at, Int.add_sub_cancel]
    have := (hw k hk).1
    omega
  · rw [plus_not e] at hpos ⊢
    have := h i hi k hk hpos
    omega

/-- The seats behind n rounds. -/
def seatF (V : Int → Int) (m : Int) (lots : List Int) : Nat → Int → Int
  | 0 => fun _ => 0
  | n + 1 => plus (seatF V m lots n) (nextL V (seatF V m lots n) m lots)
theorem seatF_succ (V : Int → Int) (m : Int) (lots : List Int) (n : Nat) : seatF V m lots (n + 1) = plus (seatF V m lots n) (nextL V (seatF V m lots n) m lots) := rfl
theorem seatF_nonneg (V : Int → Int) (m : Int) (lots : List Int) : ∀ n z, 0 ≤ seatF V m lots n z
  | 0, _ => Int.le_refl _
  | n + 1, z => by
    have := seatF_nonneg V m lots n z
    have := plus_ge (seatF V m lots n) (nextL V (seatF V m lots n) m lots) z
    rw [seatF_succ]; omega
theorem seatF_chk {V : Int → Int} {m : Int} {lots : List Int} (hm : 0 ≤ m) (hV : ∀ z, 0 ≤ V z) (hn : lots.Nodup) (h0 : lots ≠ []) : ∀ n, Chk V (seatF V m lots n) m lots
  | 0 => fun i _ k _ h => by have : (0 : Int) < 0 := h; omega
  | n + 1 => chk_next hm (seatF_nonneg V m lots n) hV hn h0 (seatF_chk hm hV hn h0 n)
theorem tot_plus : ∀ {l : List Int} (G : Int → Int) {k : Int}, l.Nodup → k ∈ l → totI (l.map (plus G k)) = totI (l.map G) + 1
  | [], _, _, _, h => by cases h
  | a :: t, G, k, hn, h => by
    rw [List.nodup_cons] at hn
    rw [List.map_cons, List.map_cons, totI_cons, totI_cons]
    by_cases e : a = k
    · subst e
      have : t.map (plus G a) = t.map G := List.map_congr_left (fun z hz => plus_not (fun e => hn.1 (e ▸ hz)))
      rw [this, plus_at]; omega
    · have hk : k ∈ t := by
        rcases List.mem_cons.1 h with g | g
        · exact absurd g.symm e
        · exact g
      rw [plus_not e, tot_plus G hn.2 hk]; omega
/-- **All seats are given** (promise 82). -/
theorem seatF_tot {V : Int → Int} {m : Int} {lots : List Int} (hm : 0 ≤ m) (hn : lots.Nodup) (h0 : lots ≠ []) : ∀ n : Nat, totI (lots.map (seatF V m lots n)) = (n : Int)
  | 0 => by
    have : ∀ l : List Int, totI (l.map (seatF V m lots 0)) = 0 := fun l => by
      induction l with
      | nil => rfl
      | cons a t ih => rw [List.map_cons, totI_cons, ih]; rfl
    exact this lots
  | n + 1 => by
    rw [seatF_succ, tot_plus _ hn (next_spec hm (seatF_nonneg V m lots n) hn h0).1, seatF_tot hm hn h0 n]; omega
/-- **No seats without votes** (promise 82). -/
theorem seatF_none {V : Int → Int} {m : Int} {lots : List Int} (hm : 0 ≤ m) (hV : ∀ z, 0 ≤ V z) (hn : lots.Nodup) (hp : ∃ k ∈ lots, 0 < V k) {i : Int} (hi : V i = 0) : ∀ n, seatF V m lots n i = 0
  | 0 => rfl
  | n + 1 => by
    obtain ⟨k, hk, hkv⟩ := hp
    have h0 : lots ≠ [] := fun e => by rw [e] at hk; cases hk
    obtain ⟨_, hw⟩ := next_spec (V := V) hm (seatF_nonneg V m lots n) hn h0
    have hb := (hw k hk).1
    have ih := seatF_none hm hV hn ⟨k, hk, hkv⟩ hi n
    have hne : i ≠ nextL V (seatF V m lots n) m lots := fun e => by
      rw [← e, hi, Int.zero_mul] at hb
      have := Int.mul_pos hkv (divI_pos hm (seatF_nonneg V m lots n i))
      omega
    rw [seatF_succ, plus_not hne, ih]
/-- What the check says of two parties. -/
theorem chk_order {V G : Int → Int} {m : Int} {lots : List Int} (hm : 0 ≤ m) (hG : ∀ z, 0 ≤ G z) (hV : ∀ z, 0 ≤ V z) (h : Chk V G m lots) {i k : Int} (hi : i ∈ lots) (hk : k ∈ lots) (hv : V k < V i) : G k ≤ G i := by
  rcases Int.lt_or_le (G i) (G k) with hlt | hle
  · exfalso
    have h1 := h k hk i hi (by have := hG i; omega)
    have h2 : V i * divI m (G i) ≤ V i * divI m (G k - 1) := Int.mul_le_mul_of_nonneg_left (divI_le hm (by omega)) (hV i)
    have h3 : V k * divI m (G i) < V i * divI m (G i) := Int.mul_lt_mul_of_pos_right hv (divI_pos hm (hG i))
    omega
  · exact hle
theorem chk_near {V G : Int → Int} {m : Int} {lots : List Int} (hm : 0 < m) (hG : ∀ z, 0 ≤ G z) (h : Chk V G m lots) {i k : Int} (hi : i ∈ lots) (hk : k ∈ lots) (hv : V k = V i) (hp : 0 < V i) : G i ≤ G k + 1 := by
  rcases Int.lt_or_le (G k + 1) (G i) with hlt | hle
  · exfalso
    have h1 := h i hi k hk (by have := hG k; omega)
    rw [hv] at h1
    have h3 : V i * divI m (G k) < V i * divI m (G i - 1) := Int.mul_lt_mul_of_pos_left (divI_lt hm (by omega)) hp
    omega
  · exact hle
/-- **Of two with equal votes the one with the earlier lot has as many or one more** (promise 84). -/
theorem seatF_early {V : Int → Int} {m : Int} {lots : List Int} (hm : 0 < m) (hn : lots.Nodup) {i k : Int} (hi : i ∈ lots) (_hk : k ∈ lots) (hv : V k = V i) (hp : 0 < V i) (hix : lots.idxOf i < lots.idxOf k) : ∀ n, seatF V m lots n k ≤ seatF V m lots n i
  | 0 => Int.le_refl _
  | n + 1 => by
    have h0 : lots ≠ [] := fun e => by rw [e] at hi; cases hi
    have ih := seatF_early hm hn hi _hk hv hp hix n
    have hG := seatF_nonneg V m lots n
    obtain ⟨_, hw⟩ := next_spec (V := V) (Int.le_of_lt hm) hG hn h0
    rw [seatF_succ]
    obtain ⟨w, hwe⟩ : ∃ w, nextL V (seatF V m lots n) m lots = w := ⟨_, rfl⟩
    rw [hwe] at hw ⊢
    by_cases e : k = w
    · subst e
      have hne : i ≠ k := fun e => by subst e; omega
      rw [plus_at, plus_not hne]
      rcases Int.lt_or_le (seatF V m lots n k) (seatF V m lots n i) with hlt | hle
      · omega
      · exfalso
        have he : seatF V m lots n k = seatF V m lots n i := by omega
        have hb := hw i hi
        have := hb.2 (by rw [hv, he])
        omega
    · rw [plus_not e]
      have := plus_ge (seatF V m lots n) w i
      omega
/-- **Only shares count** (promise 85). -/
theorem nextF_scale (V G : Int → Int) (m : Int) : ∀ (t : List Int) (b : Int), nextF (fun z => 2 * V z) G m b t = nextF V G m b t
  | [], _ => rfl
  | k :: t, b => by
    unfold nextF
    have e : (2 * V b * divI m (G k) < 2 * V k * divI m (G b)) ↔ (V b * divI m (G k) < V k * divI m (G b)) := by
      rw [Int.mul_assoc, Int.mul_assoc]; omega
    simp only [e]
    rw [nextF_scale V G m t]
theorem seatF_scale (V : Int → Int) (m : Int) (lots : List Int) : ∀ n, seatF (fun z => 2 * V z) m lots n = seatF V m lots n
  | 0 => rfl
  | n + 1 => by
    rw [seatF_succ, seatF_succ, seatF_scale V m lots n]
    congr 1
    exact nextF_scale V _ m _ _
/-- **Divisors by whole numbers keep whole parts** (promise 86). -/
theorem tot_cross : ∀ (l : List Int) (V G : Int → Int) (a b : Int), (∀ k ∈ l, a * G k ≤ V k * b) → a * totI (l.map G) ≤ totI (l.map V) * b
  | [], _, _, a, b, _ => by simp [totI_nil]
  | k :: t, V, G, a, b, h => by
    have h1 := h k (by simp)
    have h2 := tot_cross t V G a b (fun z hz => h z (by simp [hz]))
    rw [List.map_cons, List.map_cons, totI_cons, totI_cons, Int.mul_add, Int.add_mul]; omega
theorem tot_cross_lt : ∀ (l : List Int) (V G : Int → Int) (a b : Int), (∀ k ∈ l, a * G k ≤ V k * b) → (∃ k ∈ l, a * G k < V k * b) → a * totI (l.map G) < totI (l.map V) * b
  | [], _, _, _, _, _, h => by obtain ⟨k, hk, _⟩ := h; cases hk
  | k :: t, V, G, a, b, h, hx => by
    rw [List.map_cons, List.map_cons, totI_cons, totI_cons, Int.mul_add, Int.add_mul]
    have h1 := h k (by simp)
    have ht : ∀ z ∈ t, a * G z ≤ V z * b := fun z hz => h z (by simp [hz])
    have h2 := tot_cross t V G a b ht
    obtain ⟨z, hz, hlt⟩ := hx
    rcases List.mem_cons.1 hz with e | e
    · subst e; omega
    · have := tot_cross_lt t V G a b ht ⟨z, e, hlt⟩
      omega
theorem chk_floor {V G : Int → Int} {lots : List Int} (hG : ∀ z, 0 ≤ G z) (hV : ∀ z, 0 ≤ V z) (h : Chk V G 1 lots) {i : Int} (hi : i ∈ lots) (hp : 0 < totI (lots.map V)) : V i * totI (lots.map G) < (G i + 1) * totI (lots.map V) := by
  rw [Int.mul_comm (G i + 1)]
  have hall : ∀ k ∈ lots, V i * G k ≤ V k * (G i + 1) := fun k hk => by
    rcases Int.lt_or_le 0 (G k) with h0 | h0
    · have := h k hk i hi h0
      have e1 : divI 1 (G k - 1) = G k := by unfold divI; omega
      have e2 : divI 1 (G i) = G i + 1 := by unfold divI; omega
      rw [e1, e2] at this
      exact this
    · have e0 : G k = 0 := by have := hG k; omega
      rw [e0, Int.mul_zero]
      exact Int.mul_nonneg (hV k) (by have := hG i; omega)
  rcases Int.lt_or_le 0 (V i) with h0 | h0
  · refine tot_cross_lt lots V G (V i) (G i + 1) hall ⟨i, hi, ?_⟩
    rw [Int.mul_add, Int.mul_one]; omega
  · have e0 : V i = 0 := by have := hV i; omega
    rw [e0, Int.zero_mul]
    exact Int.mul_pos hp (by have := hG i; omega)
/-- **A seat that is moved is noticed, or equal** (promise 89). -/
def move (G : Int → Int) (i k : Int) : Int → Int := fun z => if z = i then G z - 1 else if z = k then G z + 1 else G z
theorem chk_move {V G : Int → Int} {m : Int} {lots : List Int} (hG : ∀ z, 0 ≤ G z) (h : Chk V G m lots) {i k : Int} (hi : i ∈ lots) (hk : k ∈ lots) (hik : i ≠ k) (hp : 0 < G i) (h2 : Chk V (move G i k) m lots) : V i * divI m (G k) = V k * divI m (G i - 1) := by
  have e1 : move G i k i = G i - 1 := by simp [move]
  have e2 : move G i k k = G k + 1 := by simp [move, Ne.symm hik]
  have a := h i hi k hk hp
  have b := h2 k hk i hi (by rw [e2]; have := hG k; omega)
  rw [e1, e2, Int.add_sub_cancel] at b
  omega

end Go.Proofs.Yteomnjakcnfchaa
