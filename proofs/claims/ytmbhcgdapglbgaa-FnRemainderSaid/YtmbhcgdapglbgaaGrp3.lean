/-
  Seats by divisors: who gets the next one, and that the check holds. Votes and seats are functions of a party's number; lots are a list. Of no memory.
  The greatest of some counts, of several ones the one who comes first in the lots: who it is, that there is one alone, and with two candidates exchanged. Of no memory.
  The plurality, as lists: the winner, a ballot more, two candidates exchanged, the margin. Of no memory.
  Lots, step by step: what a seed draws of those that are left, what is told of arguments out of range, and that a part of lots is none. Of no memory.
  Fractions, as pairs: reduced ones, sums, products, the order. Of no memory.
  Fractions, as pairs: what the functions of chapter 5 return; the laws of their promises. Of no memory.
-/
import Derived.Test.YtmbhcgdapglbgaaGrp1
import Derived.Test.YtmbhcgdapglbgaaGrp2
namespace Go.Proofs.Ytmbhcgdapglbgaa

/-- The divisor of a party with g seats. -/
def divI (m g : Int) : Int := m * g + 1
theorem divI_pos {m g : Int} (hm : 0 ≤ m) (hg : 0 ≤ g) : 0 < divI m g := by
  have := Int.mul_nonneg hm hg
  unfold divI; omega
theorem divI_le {m g h : Int} (hm : 0 ≤ m) (hg : g ≤ h) : divI m g ≤ divI m h := by
  have := Int.mul_le_mul_of_nonneg_left hg hm
  unfold divI; omega
theorem divI_lt {m g h : Int} (hm : 0 < m) (hg : g < h) : divI m g < divI m h := by
  have := Int.mul_lt_mul_of_pos_left hg hm
  unfold divI; omega
theorem cross_lt {va vb vk da db dk : Int} (hda : 0 < da) (hdb : 0 < db) (hdk : 0 < dk) (h1 : va * db ≤ vb * da) (h2 : vb * dk < vk * db) : va * dk < vk * da := by
  have e1 : va * db * dk ≤ vb * da * dk := Int.mul_le_mul_of_nonneg_right h1 (Int.le_of_lt hdk)
  have e2 : vb * dk * da < vk * db * da := Int.mul_lt_mul_of_pos_right h2 hda
  have e3 : va * dk * db < vk * da * db := by
    rw [Int.mul_right_comm va, Int.mul_right_comm vk]
    rw [Int.mul_right_comm vb] at e1
    omega
  exact Int.lt_of_mul_lt_mul_right e3 (Int.le_of_lt hdb)

/-- The party with the greatest quotient: of several ones the first one in the lots. -/
def nextF (V G : Int → Int) (m : Int) : Int → List Int → Int
  | best, [] => best
  | best, k :: t => nextF V G m (if V best * divI m (G k) < V k * divI m (G best) then k else best) t
def nextL (V G : Int → Int) (m : Int) (lots : List Int) : Int := nextF V G m (lots[0]?.getD 0) (lots.drop 1)
/-- No party has a greater quotient, and no earlier one as great a one. -/
def Beats (V G : Int → Int) (m : Int) (lots : List Int) (w i : Int) : Prop := V i * divI m (G w) ≤ V w * divI m (G i) ∧ (V i * divI m (G w) = V w * divI m (G i) → lots.idxOf w ≤ lots.idxOf i)
theorem beats_self (V G : Int → Int) (m : Int) (lots : List Int) (w : Int) : Beats V G m lots w w := ⟨Int.le_refl _, fun _ => Nat.le_refl _⟩
theorem idx_pre {pre t : List Int} {k i : Int} (hn : (pre ++ k :: t).Nodup) (hi : i ∈ pre) : (pre ++ k :: t).idxOf i < (pre ++ k :: t).idxOf k := by
  have hk : k ∉ pre := fun h => by
    rw [List.nodup_append] at hn
    exact hn.2.2 k h k (by simp) rfl
  rw [List.idxOf_append, if_pos hi, List.idxOf_append, if_neg hk]
  have := List.idxOf_lt_length_of_mem hi
  simp
  omega
theorem nextF_spec {V G : Int → Int} {m : Int} (hm : 0 ≤ m) (hG : ∀ z, 0 ≤ G z) : ∀ (t pre : List Int) (best : Int), (pre ++ t).Nodup → best ∈ pre → (∀ i ∈ pre, Beats V G m (pre ++ t) best i) →
    nextF V G m best t ∈ pre ++ t ∧ ∀ i ∈ pre ++ t, Beats V G m (pre ++ t) (nextF V G m best t) i
  | [], pre, best, _, hb, h => by rw [List.append_nil] at *; exact ⟨hb, h⟩
  | k :: t, pre, best, hn, hb, h => by
    have e : pre ++ k :: t = (pre ++ [k]) ++ t := by simp
    have hix : ∀ i ∈ pre, (pre ++ k :: t).idxOf i < (pre ++ k :: t).idxOf k := fun i hi => idx_pre hn hi
    unfold nextF
    by_cases hlt : V best * divI m (G k) < V k * divI m (G best)
    · rw [if_pos hlt]
      have := nextF_spec hm hG t (pre ++ [k]) k (by rw [← e]; exact hn) (by simp) (fun i hi => by
        rw [← e]
        rcases List.mem_append.1 hi with hi | hi
        · have hs := cross_lt (divI_pos hm (hG i)) (divI_pos hm (hG best)) (divI_pos hm (hG k)) (h i hi).1 hlt
          exact ⟨Int.le_of_lt hs, fun e2 => by omega⟩
        · have : i = k := by simpa using hi
          subst this; exact beats_self _ _ _ _ _)
      rwa [← e] at this
    · rw [if_neg hlt]
      have := nextF_spec hm hG t (pre ++ [k]) best (by rw [← e]; exact hn) (by simp [hb]) (fun i hi => by
        rw [← e]
        rcases List.mem_append.1 hi with hi | hi
        · exact h i hi
        · have : i = k := by simpa using hi
          subst this
          exact ⟨by omega, fun _ => Nat.le_of_lt (hix best hb)⟩)
      rwa [← e] at this
/-- **The next seat goes to the greatest quotient** (promise 87). -/
theorem next_spec {V G : Int → Int} {m : Int} {lots : List Int} (hm : 0 ≤ m) (hG : ∀ z, 0 ≤ G z) (hn : lots.Nodup) (h0 : lots ≠ []) : nextL V G m lots ∈ lots ∧ ∀ i ∈ lots, Beats V G m lots (nextL V G m lots) i := by
  match lots, h0 with
  | b :: t, _ =>
    have := nextF_spec (V := V) hm hG t [b] b hn (by simp) (fun i hi => by
      have : i = b := by simpa using hi
      subst this; exact beats_self _ _ _ _ _)
    simpa [nextL] using this

/-- The check: no seat would rather be another party's. -/
def Chk (V G : Int → Int) (m : Int) (lots : List Int) : Prop := ∀ i ∈ lots, ∀ k ∈ lots, 0 < G i → V k * divI m (G i - 1) ≤ V i * divI m (G k)
/-- One seat more. -/
def plus (G : Int → Int) (k : Int) : Int → Int := fun z => if z = k then G z + 1 else G z
theorem plus_at (G : Int → Int) (k : Int) : plus G k k = G k + 1 := by simp [plus]
theorem plus_not {G : Int → Int} {k z : Int} (h : z ≠ k) : plus G k z = G z := by simp [plus, h]
theorem plus_ge (G : Int → Int) (k z : Int) : G z ≤ plus G k z := by unfold plus; split <;> omega
/-- **The next seat keeps the check** (promise 88). -/
theorem chk_next {V G : Int → Int} {m : Int} {lots : List Int} (hm : 0 ≤ m) (hG : ∀ z, 0 ≤ G z) (hV : ∀ z, 0 ≤ V z) (hn : lots.Nodup) (h0 : lots ≠ []) (h : Chk V G m lots) : Chk V (plus G (nextL V G m lots)) m lots := by
  obtain ⟨_, hw⟩ := next_spec (V := V) hm hG hn h0
  obtain ⟨w, hwe⟩ : ∃ w, nextL V G m lots = w := ⟨_, rfl⟩
  rw [hwe] at hw ⊢
  intro i hi k hk hpos
  have hup : V i * divI m (G k) ≤ V i * divI m (plus G w k) := Int.mul_le_mul_of_nonneg_left (divI_le hm (plus_ge G w k)) (hV i)
  by_cases e : i = w
  · subst e
    rw [plus_at, Int.add_sub_cancel]
    have := (hw k hk).1
    omega
  · rw [plus_not e] at hpos ⊢
    have := h i hi k hk hpos
    omega

/-- The seats behind n rounds. -/
def seatF (V : Int → Int) (m : Int) (lots : List Int) : Nat → Int → Int
  | 0 => fun _ => 0
  | n + 1 => plus (seatF V m lots n) (nextL V (seatF V m lots n) m lots)
theorem seatF_succ (V : Int → Int) (m : Int) (lots : List Int) (n : Nat) : seatF V m lots (n + 1) = plus (seatF V m lots n) (nextL V (seatF V m lots n) m lots) := rfl
theorem seatF_nonneg (V : Int → Int) (m : Int) (lots : List Int) : ∀ n z, 0 ≤ seatF V m lots n z
  | 0, _ => Int.le_refl _
  | n + 1, z => by
    have := seatF_nonneg V m lots n z
    have := plus_ge (seatF V m lots n) (nextL V (seatF V m lots n) m lots) z
    rw [seatF_succ]; omega
theorem seatF_chk {V : Int → Int} {m : Int} {lots : List Int} (hm : 0 ≤ m) (hV : ∀ z, 0 ≤ V z) (hn : lots.Nodup) (h0 : lots ≠ []) : ∀ n, Chk V (seatF V m lots n) m lots
  | 0 => fun i _ k _ h => by have : (0 : Int) < 0 := h; omega
  | n + 1 => chk_next hm (seatF_nonneg V m lots n) hV hn h0 (seatF_chk hm hV hn h0 n)
theorem tot_plus : ∀ {l : List Int} (G : Int → Int) {k : Int}, l.Nodup → k ∈ l → totI (l.map (plus G k)) = totI (l.map G) + 1
  | [], _, _, _, h => by cases h
  | a :: t, G, k, hn, h => by
    rw [List.nodup_cons] at hn
    rw [List.map_cons, List.map_cons, totI_cons, totI_cons]
    by_cases e : a = k
    · subst e
      have : t.map (plus G a) = t.map G := List.map_congr_left (fun z hz => plus_not (fun e => hn.1 (e ▸ hz)))
      rw [this, plus_at]; omega
    · have hk : k ∈ t := by
        rcases List.mem_cons.1 h with g | g
        · exact absurd g.symm e
        · exact g
      rw [plus_not e, tot_plus G hn.2 hk]; omega
/-- **All seats are given** (promise 82). -/
theorem seatF_tot {V : Int → Int} {m : Int} {lots : List Int} (hm : 0 ≤ m) (hn : lots.Nodup) (h0 : lots ≠ []) : ∀ n : Nat, totI (lots.map (seatF V m lots n)) = (n : Int)
  | 0 => by
    have : ∀ l : List Int, totI (l.map (seatF V m lots 0)) = 0 := fun l => by
      induction l with
      | nil => rfl
      | cons a t ih => rw [List.map_cons, totI_cons, ih]; rfl
    exact this lots
  | n + 1 => by
    rw [seatF_succ, tot_plus _ hn (next_spec hm (seatF_nonneg V m lots n) hn h0).1, seatF_tot hm hn h0 n]; omega
/-- **No seats without votes** (promise 82). -/
theorem seatF_none {V : Int → Int} {m : Int} {lots : List Int} (hm : 0 ≤ m) (hV : ∀ z, 0 ≤ V z) (hn : lots.Nodup) (hp : ∃ k ∈ lots, 0 < V k) {i : Int} (hi : V i = 0) : ∀ n, seatF V m lots n i = 0
  | 0 => rfl
  | n + 1 => by
    obtain ⟨k, hk, hkv⟩ := hp
    have h0 : lots ≠ [] := fun e => by rw [e] at hk; cases hk
    obtain ⟨_, hw⟩ := next_spec (V := V) hm (seatF_nonneg V m lots n) hn h0
    have hb := (hw k hk).1
    have ih := seatF_none hm hV hn ⟨k, hk, hkv⟩ hi n
    have hne : i ≠ nextL V (seatF V m lots n) m lots := fun e => by
      rw [← e, hi, Int.zero_mul] at hb
      have := Int.mul_pos hkv (divI_pos hm (seatF_nonneg V m lots n i))
      omega
    rw [seatF_succ, plus_not hne, ih]
/-- What the check says of two parties. -/
theorem chk_order {V G : Int → Int} {m : Int} {lots : List Int} (hm : 0 ≤ m) (hG : ∀ z, 0 ≤ G z) (hV : ∀ z, 0 ≤ V z) (h : Chk V G m lots) {i k : Int} (hi : i ∈ lots) (hk : k ∈ lots) (hv : V k < V i) : G k ≤ G i := by
  rcases Int.lt_or_le (G i) (G k) with hlt | hle
  · exfalso
    have h1 := h k hk i hi (by have := hG i; omega)
    have h2 : V i * divI m (G i) ≤ V i * divI m (G k - 1) := Int.mul_le_mul_of_nonneg_left (divI_le hm (by omega)) (hV i)
    have h3 : V k * divI m (G i) < V i * divI m (G i) := Int.mul_lt_mul_of_pos_right hv (divI_pos hm (hG i))
    omega
  · exact hle
theorem chk_near {V G : Int → Int} {m : Int} {lots : List Int} (hm : 0 < m) (hG : ∀ z, 0 ≤ G z) (h : Chk V G m lots) {i k : Int} (hi : i ∈ lots) (hk : k ∈ lots) (hv : V k = V i) (hp : 0 < V i) : G i ≤ G k + 1 := by
  rcases Int.lt_or_le (G k + 1) (G i) with hlt | hle
  · exfalso
    have h1 := h i hi k hk (by have := hG k; omega)
    rw [hv] at h1
    have h3 : V i * divI m (G k) < V i * divI m (G i - 1) := Int.mul_lt_mul_of_pos_left (divI_lt hm (by omega)) hp
    omega
  · exact hle
/-- **Of two with equal votes the one with the earlier lot has as many or one more** (promise 84). -/
theorem seatF_early {V : Int → Int} {m : Int} {lots : List Int} (hm : 0 < m) (hn : lots.Nodup) {i k : Int} (hi : i ∈ lots) (_hk : k ∈ lots) (hv : V k = V i) (hp : 0 < V i) (hix : lots.idxOf i < lots.idxOf k) : ∀ n, seatF V m lots n k ≤ seatF V m lots n i
  | 0 => Int.le_refl _
  | n + 1 => by
    have h0 : lots ≠ [] := fun e => by rw [e] at hi; cases hi
    have ih := seatF_early hm hn hi _hk hv hp hix n
    have hG := seatF_nonneg V m lots n
    obtain ⟨_, hw⟩ := next_spec (V := V) (Int.le_of_lt hm) hG hn h0
    rw [seatF_succ]
    obtain ⟨w, hwe⟩ : ∃ w, nextL V (seatF V m lots n) m lots = w := ⟨_, rfl⟩
    rw [hwe] at hw ⊢
    by_cases e : k = w
    · subst e
      have hne : i ≠ k := fun e => by subst e; omega
      rw [plus_at, plus_not hne]
      rcases Int.lt_or_le (seatF V m lots n k) (seatF V m lots n i) with hlt | hle
      · omega
      · exfalso
        have he : seatF V m lots n k = seatF V m lots n i := by omega
        have hb := hw i hi
        have := hb.2 (by rw [hv, he])
        omega
    · rw [plus_not e]
      have := plus_ge (seatF V m lots n) w i
      omega
/-- **Only shares count** (promise 85). -/
theorem nextF_scale (V G : Int → Int) (m : Int) : ∀ (t : List Int) (b : Int), nextF (fun z => 2 * V z) G m b t = nextF V G m b t
  | [], _ => rfl
  | k :: t, b => by
    unfold nextF
    have e : (2 * V b * divI m (G k) < 2 * V k * divI m (G b)) ↔ (V b * divI m (G k) < V k * divI m (G b)) := by
      rw [Int.mul_assoc, Int.mul_assoc]; omega
    simp only [e]
    rw [nextF_scale V G m t]
theorem seatF_scale (V : Int → Int) (m : Int) (lots : List Int) : ∀ n, seatF (fun z => 2 * V z) m lots n = seatF V m lots n
  | 0 => rfl
  | n + 1 => by
    rw [seatF_succ, seatF_succ, seatF_scale V m lots n]
    congr 1
    exact nextF_scale V _ m _ _
/-- **Divisors by whole numbers keep whole parts** (promise 86). -/
theorem tot_cross : ∀ (l : List Int) (V G : Int → Int) (a b : Int), (∀ k ∈ l, a * G k ≤ V k * b) → a * totI (l.map G) ≤ totI (l.map V) * b
  | [], _, _, a, b, _ => by simp [totI_nil]
  | k :: t, V, G, a, b, h => by
    have h1 := h k (by simp)
    have h2 := tot_cross t V G a b (fun z hz => h z (by simp [hz]))
    rw [List.map_cons, List.map_cons, totI_cons, totI_cons, Int.mul_add, Int.add_mul]; omega
theorem tot_cross_lt : ∀ (l : List Int) (V G : Int → Int) (a b : Int), (∀ k ∈ l, a * G k ≤ V k * b) → (∃ k ∈ l, a * G k < V k * b) → a * totI (l.map G) < totI (l.map V) * b
  | [], _, _, _, _, _, h => by obtain ⟨k, hk, _⟩ := h; cases hk
  | k :: t, V, G, a, b, h, hx => by
    rw [List.map_cons, List.map_cons, totI_cons, totI_cons, Int.mul_add, Int.add_mul]
    have h1 := h k (by simp)
    have ht : ∀ z ∈ t, a * G z ≤ V z * b := fun z hz => h z (by simp [hz])
    have h2 := tot_cross t V G a b ht
    obtain ⟨z, hz, hlt⟩ := hx
    rcases List.mem_cons.1 hz with e | e
    · subst e; omega
    · have := tot_cross_lt t V G a b ht ⟨z, e, hlt⟩
      omega
theorem chk_floor {V G : Int → Int} {lots : List Int} (hG : ∀ z, 0 ≤ G z) (hV : ∀ z, 0 ≤ V z) (h : Chk V G 1 lots) {i : Int} (hi : i ∈ lots) (hp : 0 < totI (lots.map V)) : V i * totI (lots.map G) < (G i + 1) * totI (lots.map V) := by
  rw [Int.mul_comm (G i + 1)]
  have hall : ∀ k ∈ lots, V i * G k ≤ V k * (G i + 1) := fun k hk => by
    rcases Int.lt_or_le 0 (G k) with h0 | h0
    · have := h k hk i hi h0
      have e1 : divI 1 (G k - 1) = G k := by unfold divI; omega
      have e2 : divI 1 (G i) = G i + 1 := by unfold divI; omega
      rw [e1, e2] at this
      exact this
    · have e0 : G k = 0 := by have := hG k; omega
      rw [e0, Int.mul_zero]
      exact Int.mul_nonneg (hV k) (by have := hG i; omega)
  rcases Int.lt_or_le 0 (V i) with h0 | h0
  · refine tot_cross_lt lots V G (V i) (G i + 1) hall ⟨i, hi, ?_⟩
    rw [Int.mul_add, Int.mul_one]; omega
  · have e0 : V i = 0 := by have := hV i; omega
    rw [e0, Int.zero_mul]
    exact Int.mul_pos hp (by have := hG i; omega)
/-- **A seat that is moved is noticed, or equal** (promise 89). -/
def move (G : Int → Int) (i k : Int) : Int → Int := fun z => if z = i then G z - 1 else if z = k then G z + 1 else G z
theorem chk_move {V G : Int → Int} {m : Int} {lots : List Int} (hG : ∀ z, 0 ≤ G z) (h : Chk V G m lots) {i k : Int} (hi : i ∈ lots) (hk : k ∈ lots) (hik : i ≠ k) (hp : 0 < G i) (h2 : Chk V (move G i k) m lots) : V i * divI m (G k) = V k * divI m (G i - 1) := by
  have e1 : move G i k i = G i - 1 := by simp [move]
  have e2 : move G i k k = G k + 1 := by simp [move, Ne.symm hik]
  have a := h i hi k hk hp
  have b := h2 k hk i hi (by rw [e2]; have := hG k; omega)
  rw [e1, e2, Int.add_sub_cancel] at b
  omega

end Go.Proofs.Ytmbhcgdapglbgaa

namespace Go.Proofs.Ytmbhcgdapglbgaa

/-- The greatest of the first k counts of some, or -1. -/
def bestS (c : List Int) (s : List Bool) (k : Nat) : Int := (List.range k).foldl (fun (b : Int) (i : Nat) => if s[i]?.getD false = true then max b (c[i]?.getD 0) else b) (-1)
theorem bestS_zero (c : List Int) (s : List Bool) : bestS c s 0 = -1 := rfl
theorem bestS_succ (c : List Int) (s : List Bool) (k : Nat) : bestS c s (k + 1) = if s[k]?.getD false = true then max (bestS c s k) (c[k]?.getD 0) else bestS c s k := by
  simp [bestS, List.range_succ]
theorem bestS_ge {c : List Int} {s : List Bool} {k i : Nat} (h : i < k) (hs : s[i]?.getD false = true) : c[i]?.getD 0 ≤ bestS c s k := by
  induction k with
  | zero => omega
  | succ k ih =>
    rw [bestS_succ]
    by_cases e : i = k
    · subst e; rw [if_pos hs]; omega
    · have := ih (by omega)
      split <;> omega
theorem bestS_hit (c : List Int) (s : List Bool) (k : Nat) : bestS c s k = -1 ∨ ∃ i, i < k ∧ s[i]?.getD false = true ∧ c[i]?.getD 0 = bestS c s k := by
  induction k with
  | zero => exact .inl rfl
  | succ k ih =>
    rw [bestS_succ]
    by_cases hs : s[k]?.getD false = true
    · rw [if_pos hs]
      rcases ih with ih | ⟨i, hi, h1, h2⟩
      · by_cases g : c[k]?.getD 0 ≤ -1
        · left; omega
        · right; exact ⟨k, by omega, hs, by omega⟩
      · by_cases g : c[k]?.getD 0 ≤ bestS c s k
        · right; exact ⟨i, by omega, h1, by omega⟩
        · right; exact ⟨k, by omega, hs, by omega⟩
    · rw [if_neg hs]
      rcases ih with ih | ⟨i, hi, h1, h2⟩
      · exact .inl ih
      · exact .inr ⟨i, by omega, h1, h2⟩
/-- Who has the greatest of some counts. -/
def mostL (c : List Int) (s : List Bool) : List Bool := (List.range c.length).map fun i => s[i]?.getD false && (c[i]?.getD 0 == bestS c s c.length)
theorem mostL_length (c : List Int) (s : List Bool) : (mostL c s).length = c.length := by simp [mostL]
theorem mostL_at {c : List Int} {s : List Bool} {i : Nat} (h : i < c.length) : (mostL c s)[i]?.getD false = true ↔ s[i]?.getD false = true ∧ c[i]?.getD 0 = bestS c s c.length := by
  simp [mostL, h]

/-- The first one of some in an order. -/
theorem pickL_spec {l : List Int} {L : List Bool} (h : ∃ z ∈ l, L[z.toNat]?.getD false = true) : pickL l L ∈ l ∧ L[(pickL l L).toNat]?.getD false = true ∧ ∀ u ∈ l, L[u.toNat]?.getD false = true → l.idxOf (pickL l L) ≤ l.idxOf u := by
  induction l with
  | nil => obtain ⟨z, hz, _⟩ := h; cases hz
  | cons a t ih =>
    unfold pickL
    by_cases ha : L[a.toNat]?.getD false = true
    · rw [if_pos ha]
      exact ⟨by simp, ha, fun u _ _ => by simp [List.idxOf_cons]⟩
    · rw [if_neg ha]
      obtain ⟨z, hz, hzL⟩ := h
      have hz' : z ∈ t := by
        rcases List.mem_cons.1 hz with e | e
        · subst e; exact absurd hzL ha
        · exact e
      obtain ⟨i1, i2, i3⟩ := ih ⟨z, hz', hzL⟩
      refine ⟨by simp [i1], i2, fun u hu huL => ?_⟩
      have hau : ¬ a = u := fun e => ha (by rw [e]; exact huL)
      have hap : ¬ a = pickL t L := fun e => ha (by rw [e]; exact i2)
      have hu' : u ∈ t := by
        rcases List.mem_cons.1 hu with e | e
        · exact absurd e.symm hau
        · exact e
      have := i3 u hu' huL
      rw [List.idxOf_cons, List.idxOf_cons]
      simp only [beq_eq_false_iff_ne.2 hau, beq_eq_false_iff_ne.2 hap, cond_false]
      omega

/-- **w has the greatest of some counts**, and comes first in the lots among those who have as many. -/
def IsWin (c : List Int) (s : List Bool) (lots : List Int) (w : Int) : Prop :=
  w ∈ lots ∧ s[w.toNat]?.getD false = true ∧ ∀ i ∈ lots, s[i.toNat]?.getD false = true → c[i.toNat]?.getD 0 < c[w.toNat]?.getD 0 ∨ (c[i.toNat]?.getD 0 = c[w.toNat]?.getD 0 ∧ lots.idxOf w ≤ lots.idxOf i)
theorem idxOf_inj {l : List Int} {a b : Int} (ha : a ∈ l) (h : l.idxOf a = l.idxOf b) : a = b := by
  induction l with
  | nil => cases ha
  | cons z t ih =>
    rw [List.idxOf_cons, List.idxOf_cons] at h
    by_cases h1 : z = a
    · by_cases h2 : z = b
      · exact h1.symm.trans h2
      · simp only [beq_iff_eq.2 h1, beq_eq_false_iff_ne.2 h2, cond_true, cond_false] at h; omega
    · by_cases h2 : z = b
      · simp only [beq_eq_false_iff_ne.2 h1, beq_iff_eq.2 h2, cond_true, cond_false] at h; omega
      · simp only [beq_eq_false_iff_ne.2 h1, beq_eq_false_iff_ne.2 h2, cond_false] at h
        refine ih ?_ (by omega)
        rcases List.mem_cons.1 ha with e | e
        · exact absurd e.symm h1
        · exact e
/-- There is one alone. -/
theorem win_one {c : List Int} {s : List Bool} {lots : List Int} {v w : Int} (hv : IsWin c s lots v) (hw : IsWin c s lots w) : v = w := by
  obtain ⟨v1, v2, v3⟩ := hv
  obtain ⟨w1, w2, w3⟩ := hw
  have a := v3 w w1 w2
  have b := w3 v v1 v2
  exact idxOf_inj v1 (by omega)
theorem lots_mem {lots : List Int} (h : lotsB lots = true) {i : Nat} (hi : i < lots.length) : (i : Int) ∈ lots := by
  have hm := vB_mem h
  have hd := vB_nodup h
  by_cases e : (i : Int) ∈ lots
  · exact e
  · have hnd : ((i : Int) :: lots).Nodup := List.nodup_cons.2 ⟨e, hd⟩
    have := few_of lots.length ((i : Int) :: lots) hnd (fun z hz => by
      rcases List.mem_cons.1 hz with g | g
      · subst g; omega
      · exact hm.2.2 z g)
    simp at this
    omega
/-- **The pick is the one.** -/
theorem win_pick {c : List Int} {s : List Bool} {lots : List Int} (hl : lotsB lots = true) (hc : c.length = lots.length) (h0 : ∀ i, i < c.length → 0 ≤ c[i]?.getD 0) (hs : ∃ i, i < c.length ∧ s[i]?.getD false = true) : IsWin c s lots (pickL lots (mostL c s)) := by
  have hm := vB_mem hl
  have hN : ∀ z ∈ lots, z.toNat < c.length := fun z hz => by have := hm.2.2 z hz; omega
  obtain ⟨j, hj, hsj⟩ := hs
  have hb := bestS_hit c s c.length
  have hge := bestS_ge (c := c) hj hsj
  have h0j := h0 j hj
  rcases hb with hb | ⟨i, hi, h1, h2⟩
  · omega
  · obtain ⟨p1, p2, p3⟩ := pickL_spec (l := lots) (L := mostL c s) ⟨(i : Int), lots_mem hl (by omega), by rw [Int.toNat_natCast, mostL_at hi]; exact ⟨h1, h2⟩⟩
    have hp := (mostL_at (hN _ p1)).1 p2
    refine ⟨p1, hp.1, fun u hu hsu => ?_⟩
    have hg := bestS_ge (c := c) (hN u hu) hsu
    by_cases e : c[u.toNat]?.getD 0 = bestS c s c.length
    · exact .inr ⟨by omega, p3 u hu ((mostL_at (hN u hu)).2 ⟨hsu, e⟩)⟩
    · exact .inl (by omega)

/-- x comes before y. -/
def befL : List Int → Int → Int → Bool
  | [], _, _ => false
  | z :: t, x, y => if z = x ∨ z = y then decide (z = x) && decide (x ≠ y) else befL t x y
theorem befL_iff {l : List Int} {x y : Int} (hx : x ∈ l) : befL l x y = true ↔ l.idxOf x < l.idxOf y := by
  induction l with
  | nil => cases hx
  | cons z t ih =>
    unfold befL
    rw [List.idxOf_cons, List.idxOf_cons]
    by_cases h1 : z = x
    · by_cases h2 : z = y
      · simp [h1, h1.symm.trans h2]
      · rw [if_pos (.inl h1)]
        simp only [beq_iff_eq.2 h1, beq_eq_false_iff_ne.2 h2, cond_true, cond_false]
        simp [h1, show ¬ x = y from fun e => h2 (h1.trans e)]
    · have hx' : x ∈ t := by
        rcases List.mem_cons.1 hx with e | e
        · exact absurd e.symm h1
        · exact e
      by_cases h2 : z = y
      · rw [if_pos (.inr h2)]
        simp only [beq_eq_false_iff_ne.2 h1, beq_iff_eq.2 h2, cond_true, cond_false]
        simp [h1]
      · rw [if_neg (by rintro (e | e); exact h1 e; exact h2 e), ih hx']
        simp only [beq_eq_false_iff_ne.2 h1, beq_eq_false_iff_ne.2 h2, cond_false]
        omega
/-- **Nobody has more than the winner**; who has as many doesn't come before. -/
theorem win_most {c : List Int} {s : List Bool} {lots : List Int} {w : Int} (hw : IsWin c s lots w) {k : Int} (hk : k ∈ lots) (hs : s[k.toNat]?.getD false = true) : c[k.toNat]?.getD 0 ≤ c[w.toNat]?.getD 0 ∧ (c[k.toNat]?.getD 0 = c[w.toNat]?.getD 0 → befL lots k w = false) := by
  have := hw.2.2 k hk hs
  refine ⟨by omega, fun e => ?_⟩
  cases hb : befL lots k w
  · rfl
  · have := (befL_iff hk).1 hb
    omega

/-! ### Two candidates exchanged. -/
theorem swapC_inj {x y a b : Int} (h : swapC x y a = swapC x y b) : a = b := by
  have := congrArg (swapC x y) h
  rwa [swapC_twice, swapC_twice] at this
theorem idxOf_turn (x y : Int) (l : List Int) (z : Int) : (turnB x y l).idxOf (swapC x y z) = l.idxOf z := by
  unfold turnB
  induction l with
  | nil => rfl
  | cons a t ih =>
    rw [List.map_cons, List.idxOf_cons, List.idxOf_cons, ih]
    by_cases e : a = z
    · simp [e]
    · have : ¬ swapC x y a = swapC x y z := fun g => e (swapC_inj g)
      simp only [beq_eq_false_iff_ne.2 e, beq_eq_false_iff_ne.2 this]
/-- **Candidates are treated alike.** -/
theorem win_turn {c c' : List Int} {s s' : List Bool} {lots : List Int} {w x y : Int} (hw : IsWin c s lots w) (hc : ∀ z ∈ lots, c'[(swapC x y z).toNat]?.getD 0 = c[z.toNat]?.getD 0) (hs : ∀ z ∈ lots, s'[(swapC x y z).toNat]?.getD false = s[z.toNat]?.getD false) : IsWin c' s' (turnB x y lots) (swapC x y w) := by
  obtain ⟨w1, w2, w3⟩ := hw
  refine ⟨List.mem_map.2 ⟨w, w1, rfl⟩, by rw [hs w w1]; exact w2, fun i hi hsi => ?_⟩
  obtain ⟨z, hz, rfl⟩ := List.mem_map.1 hi
  rw [hc z hz, hc w w1, idxOf_turn, idxOf_turn]
  exact w3 z hz (by rw [← hs z hz]; exact hsi)

end Go.Proofs.Ytmbhcgdapglbgaa

namespace Go.Proofs.Ytmbhcgdapglbgaa

theorem parse_turn {x y : Int} (hx : 0 ≤ x ∧ x ≤ 4) (hy : 0 ≤ y ∧ y ≤ 4) {s : ByteArray} (h : validB (nums s) 5 = true) : parseL (turnT x y s) = turnB x y (parseL s) := by
  unfold turnT
  rw [parseL_ok h, txtB_parse (turnB_valid hx hy h)]
theorem firstL_turn {x y : Int} (hx : 0 ≤ x) (hy : 0 ≤ y) {zs : List Int} {L L' : List Bool} (h : ∀ z ∈ zs, L'[(swapC x y z).toNat]?.getD false = L[z.toNat]?.getD false) : firstL (turnB x y zs) L' = swapC x y (firstL zs L) := by
  unfold turnB
  induction zs with
  | nil =>
    have : swapC x y (-1) = -1 := by unfold swapC; rw [if_neg (by omega), if_neg (by omega)]
    rw [List.map_nil, firstL, firstL, this]
  | cons z t ih =>
    rw [List.map_cons, firstL, firstL, h z (by simp)]
    split
    · exact ih (fun u hu => h u (by simp [hu]))
    · rfl
theorem swapC_low {x y z : Int} (hx : 0 ≤ x) (hy : 0 ≤ y) (hz : 0 ≤ z) : 0 ≤ swapC x y z := by
  unfold swapC
  split
  · exact hy
  · split
    · exact hx
    · exact hz
theorem swapC_high {x y z n : Int} (hx : x < n) (hy : y < n) (hz : z < n) : swapC x y z < n := by
  unfold swapC
  split
  · exact hy
  · split
    · exact hx
    · exact hz
/-- The counts of turned piles are those of the other candidate. -/
theorem counts_turn {ps : List Pl} {L L' : List Bool} {x y : Int} (hx : 0 ≤ x ∧ x ≤ 4) (hy : 0 ≤ y ∧ y ≤ 4) (hv : ∀ p ∈ ps, validB (nums p.1) 5 = true) (hL : ∀ z : Int, 0 ≤ z → z ≤ 4 → L'[(swapC x y z).toNat]?.getD false = L[z.toNat]?.getD false) {k : Nat} (hk : k < L.length) (hk' : (swapC x y (k : Int)).toNat < L'.length) :
    (countsL (turnPs x y ps) L')[(swapC x y (k : Int)).toNat]?.getD 0 = (countsL ps L)[k]?.getD 0 := by
  rw [countsL_at _ _ hk', countsL_at _ _ hk, wsum_turn]
  refine wsum_congr (fun p hp => ?_)
  have h5 := hv p hp
  have hm := vB_mem h5
  have e1 : firstL (parseL (turnT x y p.1)) L' = swapC x y (firstL (parseL p.1) L) := by
    rw [parse_turn hx hy h5]
    refine firstL_turn hx.1 hy.1 (fun z hz => ?_)
    rw [parseL_ok h5] at hz
    have := hm.2.2 z hz
    exact hL z this.1 (by omega)
  have e2 := Int.toNat_of_nonneg (swapC_low hx.1 hy.1 (Int.natCast_nonneg k))
  unfold oneF
  rw [e1, e2]
  by_cases e : firstL (parseL p.1) L = (k : Int)
  · rw [if_pos e, if_pos (by rw [e])]
  · rw [if_neg e, if_neg (fun g => e (swapC_inj g))]

/-- Nobody has left. -/
def noneL (n : Nat) : List Bool := List.replicate n false
def allL (n : Nat) : List Bool := List.replicate n true
theorem noneL_at (n k : Nat) : (noneL n)[k]?.getD false = false := by
  unfold noneL; rw [List.getElem?_replicate]; split <;> rfl
theorem allL_at {n k : Nat} (h : k < n) : (allL n)[k]?.getD false = true := by
  unfold allL; rw [List.getElem?_replicate, if_pos h]; rfl
theorem noneL_length (n : Nat) : (noneL n).length = n := by simp [noneL]
def plurC (ps : List Pl) (n : Nat) : List Int := countsL ps (noneL n)
theorem plurC_length (ps : List Pl) (n : Nat) : (plurC ps n).length = n := by rw [plurC, countsL_length, noneL_length]
theorem plurC_low {ps : List Pl} (hp : ∀ p ∈ ps, 1 ≤ p.2) {n k : Nat} (hk : k < n) : 0 ≤ (plurC ps n)[k]?.getD 0 := counts_low (by rw [noneL_length]; exact hk) hp
/-- The winner. -/
def winL (ps : List Pl) (lots : List Int) : Int := pickL lots (mostL (plurC ps lots.length) (allL lots.length))
theorem win_is {ps : List Pl} {lots : List Int} (hl : lotsB lots = true) (hp : ∀ p ∈ ps, 1 ≤ p.2) : IsWin (plurC ps lots.length) (allL lots.length) lots (winL ps lots) := by
  have hn := lotsB_len hl
  refine win_pick hl (plurC_length _ _) (fun i hi => ?_) ⟨0, ?_, allL_at (by omega)⟩
  · rw [plurC_length] at hi
    exact plurC_low hp hi
  · rw [plurC_length]; omega
theorem winL_range {ps : List Pl} {lots : List Int} (hl : lotsB lots = true) (hp : ∀ p ∈ ps, 1 ≤ p.2) : 0 ≤ winL ps lots ∧ winL ps lots < (lots.length : Int) := (vB_mem hl).2.2 _ (win_is hl hp).1

/-- A ballot for one candidate alone. -/
theorem plurC_put {ps : List Pl} {w : Int} {n : Nat} (hw : 0 ≤ w ∧ w < 5) {i : Nat} (hi : i < n) : (plurC (putL ps (txtB [w]) 1) n)[i]?.getD 0 = (plurC ps n)[i]?.getD 0 + if w = (i : Int) then 1 else 0 := by
  unfold plurC
  rw [counts_put _ _ _ (by rw [noneL_length]; exact hi)]
  have hv : validB [w] 5 = true := vB_of (by omega) (by omega) (by simp) (fun z hz => by simp at hz; omega)
  have hf : firstL (parseL (txtB [w])) (noneL n) = w := by
    rw [txtB_parse hv, firstL, if_neg (by rw [noneL_at]; simp)]
  unfold oneF
  rw [hf, Int.mul_one]
/-- **A ballot for the winner helps.** -/
theorem plur_more {ps : List Pl} {lots : List Int} (hl : lotsB lots = true) (hp : ∀ p ∈ ps, 1 ≤ p.2) : winL (putL ps (txtB [winL ps lots]) 1) lots = winL ps lots := by
  have h0 := win_is hl hp
  have hr := winL_range hl hp
  have hn := lotsB_len hl
  have hm := (vB_mem hl).2.2
  generalize winL ps lots = w at h0 hr
  have h1 := win_is (ps := putL ps (txtB [w]) 1) hl (pos_put hp (by omega))
  refine win_one h1 ⟨h0.1, h0.2.1, fun i hi hs => ?_⟩
  have hi' := hm i hi
  have a := h0.2.2 i hi hs
  rw [plurC_put (by omega) (by omega), plurC_put (by omega) (by omega)]
  rw [if_pos (show w = (w.toNat : Int) by omega)]
  by_cases e : w = (i.toNat : Int)
  · have e2 : i = w := by omega
    subst e2
    exact .inr ⟨by rw [if_pos e], Nat.le_refl _⟩
  · rw [if_neg e]
    exact .inl (by omega)
/-- **Candidates are treated alike.** -/
theorem plur_turn {ps : List Pl} {lots : List Int} (hl : lotsB lots = true) (hps : pilesB ps = true) {x y : Int} (hx : 0 ≤ x ∧ x < (lots.length : Int)) (hy : 0 ≤ y ∧ y < (lots.length : Int)) : winL (turnPs x y ps) (turnB x y lots) = swapC x y (winL ps lots) := by
  have hn := lotsB_len hl
  have hm := (vB_mem hl).2.2
  have hpp := pilesB_pos hps
  have hlen : (turnB x y lots).length = lots.length := by simp [turnB]
  have hl' : lotsB (turnB x y lots) = true := by
    unfold lotsB
    refine vB_of (by omega) (by omega) ?_ (fun z hz => ?_)
    · unfold turnB List.Nodup
      rw [List.pairwise_map]
      exact List.Pairwise.imp (fun {a b} hab e => hab (swapC_inj e)) (vB_nodup hl)
    · obtain ⟨u, hu, rfl⟩ := List.mem_map.1 hz
      have := hm u hu
      rw [hlen]
      exact ⟨swapC_low hx.1 hy.1 this.1, swapC_high hx.2 hy.2 this.2⟩
  have h1 := win_is hl' (ps := turnPs x y ps) (turnPs_pos hpp.2.1)
  rw [hlen] at h1
  refine win_one h1 (win_turn (win_is hl hpp.2.1) (fun z hz => ?_) (fun z hz => ?_))
  · have hz' := hm z hz
    have hz2 := swapC_high hx.2 hy.2 hz'.2
    have hz3 := swapC_low hx.1 hy.1 hz'.1
    have hc := counts_turn (L := noneL lots.length) (L' := noneL lots.length) (k := z.toNat) (show 0 ≤ x ∧ x ≤ 4 by omega) (show 0 ≤ y ∧ y ≤ 4 by omega) hpp.2.2.2.1 (fun u _ _ => by rw [noneL_at, noneL_at]) (by rw [noneL_length]; omega) (by rw [noneL_length, Int.toNat_of_nonneg hz'.1]; omega)
    rw [Int.toNat_of_nonneg hz'.1] at hc
    exact hc
  · have hz' := hm z hz
    have hz2 := swapC_high hx.2 hy.2 hz'.2
    have hz3 := swapC_low hx.1 hy.1 hz'.1
    rw [allL_at (by omega), allL_at (by omega)]

/-- The greatest count of the first k others, or 0. -/
def nextTo (c : List Int) (w : Int) (k : Nat) : Int := (List.range k).foldl (fun (b : Int) (i : Nat) => if (i : Int) ≠ w then max b (c[i]?.getD 0) else b) 0
theorem nextTo_zero (c : List Int) (w : Int) : nextTo c w 0 = 0 := rfl
theorem nextTo_succ (c : List Int) (w : Int) (k : Nat) : nextTo c w (k + 1) = if (k : Int) ≠ w then max (nextTo c w k) (c[k]?.getD 0) else nextTo c w k := by
  simp [nextTo, List.range_succ]
theorem nextTo_low (c : List Int) (w : Int) (k : Nat) : 0 ≤ nextTo c w k := by
  induction k with
  | zero => exact Int.le_refl _
  | succ k ih => rw [nextTo_succ]; split <;> omega
theorem nextTo_ge {c : List Int} {w : Int} {k i : Nat} (h : i < k) (hw : (i : Int) ≠ w) : c[i]?.getD 0 ≤ nextTo c w k := by
  induction k with
  | zero => omega
  | succ k ih =>
    rw [nextTo_succ]
    by_cases e : i = k
    · subst e; rw [if_pos hw]; omega
    · have := ih (by omega)
      split <;> omega
theorem nextTo_hit (c : List Int) (w : Int) (k : Nat) : nextTo c w k = 0 ∨ ∃ i, i < k ∧ (i : Int) ≠ w ∧ c[i]?.getD 0 = nextTo c w k := by
  induction k with
  | zero => exact .inl rfl
  | succ k ih =>
    rw [nextTo_succ]
    by_cases hw : (k : Int) ≠ w
    · rw [if_pos hw]
      rcases ih with ih | ⟨i, hi, h1, h2⟩
      · by_cases g : c[k]?.getD 0 ≤ 0
        · left; omega
        · right; exact ⟨k, by omega, hw, by omega⟩
      · by_cases g : c[k]?.getD 0 ≤ nextTo c w k
        · right; exact ⟨i, by omega, h1, by omega⟩
        · right; exact ⟨k, by omega, hw, by omega⟩
    · rw [if_neg hw]
      rcases ih with ih | ⟨i, hi, h1, h2⟩
      · exact .inl ih
      · exact .inr ⟨i, by omega, h1, h2⟩
/-- The margin. -/
def marginL (ps : List Pl) (lots : List Int) : Int := (plurC ps lots.length)[(winL ps lots).toNat]?.getD 0 - nextTo (plurC ps lots.length) (winL ps lots) lots.length
theorem nextTo_congr {c c' : List Int} {w : Int} (k : Nat) (h : ∀ i, i < k → (i : Int) ≠ w → c'[i]?.getD 0 = c[i]?.getD 0) : nextTo c' w k = nextTo c w k := by
  induction k with
  | zero => rfl
  | succ k ih =>
    rw [nextTo_succ, nextTo_succ, ih (fun i hi => h i (by omega))]
    by_cases e : (k : Int) ≠ w
    · rw [if_pos e, if_pos e, h k (by omega) e]
    · rw [if_neg e, if_neg e]
theorem margin_more {ps : List Pl} {lots : List Int} (hl : lotsB lots = true) (hp : ∀ p ∈ ps, 1 ≤ p.2) : marginL (putL ps (txtB [winL ps lots]) 1) lots = marginL ps lots + 1 := by
  have hr := winL_range hl hp
  have hn := lotsB_len hl
  unfold marginL
  rw [plur_more hl hp]
  generalize winL ps lots = w at hr
  rw [plurC_put (by omega) (by omega), if_pos (by omega), nextTo_congr (c := plurC ps lots.length) lots.length (fun i hi hw => by rw [plurC_put (by omega) hi, if_neg (by omega)]; omega)]
  omega
/-- **A margin is how many ballots are more.** -/
theorem margin_is {ps : List Pl} {lots : List Int} (hl : lotsB lots = true) (hp : ∀ p ∈ ps, 1 ≤ p.2) :
    0 ≤ marginL ps lots ∧ (∀ i : Nat, i < lots.length → (i : Int) ≠ winL ps lots → marginL ps lots ≤ (plurC ps lots.length)[(winL ps lots).toNat]?.getD 0 - (plurC ps lots.length)[i]?.getD 0) ∧ ((lots.length = 1 ∧ marginL ps lots = (plurC ps lots.length)[(winL ps lots).toNat]?.getD 0) ∨ ∃ i : Nat, i < lots.length ∧ (i : Int) ≠ winL ps lots ∧ (plurC ps lots.length)[(winL ps lots).toNat]?.getD 0 - (plurC ps lots.length)[i]?.getD 0 = marginL ps lots) := by
  have h0 := win_is hl hp
  have hr := winL_range hl hp
  have hn := lotsB_len hl
  unfold marginL
  generalize winL ps lots = w at h0 hr
  have hw0 := plurC_low hp (n := lots.length) (k := w.toNat) (by omega)
  have hh := nextTo_hit (plurC ps lots.length) w lots.length
  have hlow := nextTo_low (plurC ps lots.length) w lots.length
  refine ⟨?_, fun i hi hw => ?_, ?_⟩
  · rcases hh with hh | ⟨i, hi, h1, h2⟩
    · omega
    · have := h0.2.2 (i : Int) (lots_mem hl hi) (allL_at (by omega))
      rw [Int.toNat_natCast] at this
      omega
  · have := nextTo_ge (c := plurC ps lots.length) hi hw
    omega
  · rcases hh with hh | ⟨i, hi, h1, h2⟩
    · by_cases e : lots.length = 1
      · exact .inl ⟨e, by omega⟩
      · right
        obtain ⟨i, hi, hw⟩ : ∃ i : Nat, i < lots.length ∧ (i : Int) ≠ w := by
          by_cases e0 : w = 0
          · exact ⟨1, by omega, by omega⟩
          · exact ⟨0, by omega, by omega⟩
        have a := plurC_low hp (n := lots.length) (k := i) hi
        have b := nextTo_ge (c := plurC ps lots.length) hi hw
        exact ⟨i, hi, hw, by omega⟩
    · exact .inr ⟨i, hi, h1, by omega⟩

end Go.Proofs.Ytmbhcgdapglbgaa

namespace Go.Proofs.Ytmbhcgdapglbgaa

/-- The lots that a seed draws of those that are left. -/
def lotR (rest : List Int) (seed : Nat) : List Int := lotL rest.length rest seed
theorem lotR_nil (seed : Nat) : lotR [] seed = [] := rfl
theorem lotR_step {rest : List Int} {m : Nat} (hm : rest.length = m) (h : m ≠ 0) (seed : Nat) : lotR rest seed = rest[seed % m]?.getD 0 :: lotR (rest.eraseIdx (seed % m)) (seed / m) := by
  subst hm
  obtain ⟨n, hn⟩ : ∃ n, rest.length = n + 1 := ⟨rest.length - 1, by omega⟩
  have hk := Nat.mod_lt seed (show 0 < rest.length by omega)
  have he : (rest.eraseIdx (seed % rest.length)).length = n := by rw [List.length_eraseIdx, if_pos hk]; omega
  unfold lotR
  rw [he]
  conv => lhs; rw [hn]
  rw [lotL_step n rest seed h]
theorem lotR_all (n seed : Nat) : lotR (fromZero n) seed = lotsOf n seed := by unfold lotR lotsOf; rw [fromZero_length]
theorem erase_length {rest : List Int} {m k : Nat} (hm : rest.length = m) (h : k < m) : (rest.eraseIdx k).length = m - 1 := by rw [List.length_eraseIdx, hm, if_pos h]

/-- The number of candidates and the seed are in range. -/
def okLots (n seed : Int) : Bool := inB n 1 5 && inB seed 0 999
/-- What LotsOf returns. -/
def lotsI (n seed : Int) : List Int := if okLots n seed = true then lotsOf n.toNat seed.toNat else []
theorem okLots_of {n seed : Int} (h : okLots n seed = true) : (1 ≤ n ∧ n ≤ 5) ∧ 0 ≤ seed ∧ seed ≤ 999 := by simpa [okLots, inB] using h
theorem okLots_yes {n seed : Int} (h1 : 1 ≤ n) (h2 : n ≤ 5) (h3 : 0 ≤ seed) (h4 : seed ≤ 999) : okLots n seed = true := by simp [okLots, inB]; omega
theorem okLots_no {n seed : Int} (h : n < 1 ∨ 5 < n ∨ seed < 0 ∨ 999 < seed) : okLots n seed = false := by
  cases hk : okLots n seed
  · rfl
  · have := okLots_of hk; omega
theorem lotsI_yes {n seed : Int} (h : okLots n seed = true) : lotsI n seed = lotsOf n.toNat seed.toNat := by rw [lotsI, if_pos h]
theorem lotsI_no {n seed : Int} (h : okLots n seed = false) : lotsI n seed = [] := by rw [lotsI, h]; rfl
theorem lotsI_short (n seed : Int) : (lotsI n seed).length ≤ 5 := by
  cases h : okLots n seed
  · rw [lotsI_no h]; simp
  · have := okLots_of h
    rw [lotsI_yes h, lotsOf_length]; omega
theorem lotsI_length {n seed : Int} (h : okLots n seed = true) : ((lotsI n seed).length : Int) = n := by
  have := okLots_of h
  rw [lotsI_yes h, lotsOf_length]; omega
theorem lotsI_valid {n seed : Int} (h : okLots n seed = true) : lotsB (lotsI n seed) = true := by
  have := okLots_of h
  rw [lotsI_yes h]; exact lotsOf_valid (by omega) (by omega)
theorem lotsI_head {n seed : Int} (h : okLots n seed = true) : (lotsI n seed)[0]?.getD 0 = seed % n := by
  have := okLots_of h
  rw [lotsI_yes h, lotsOf_head (by omega), Int.natCast_emod, Int.toNat_of_nonneg (by omega), Int.toNat_of_nonneg (by omega)]

/-- The product of 1 to n. -/
def factI (n : Int) : Int := (factN n.toNat : Int)
/-- The product of the numbers up to i (those above 1). -/
theorem fact_small (k : Nat) (h : k ≤ 5) : factN k = [1, 1, 2, 6, 24, 120][k]?.getD 0 := by
  have e : k = 0 ∨ k = 1 ∨ k = 2 ∨ k = 3 ∨ k = 4 ∨ k = 5 := by omega
  rcases e with rfl | rfl | rfl | rfl | rfl | rfl <;> rfl
theorem lotsI_more {n seed : Int} (h : okLots n seed = true) (h2 : okLots n (seed + factI n) = true) : lotsI n (seed + factI n) = lotsI n seed := by
  have := okLots_of h
  rw [lotsI_yes h, lotsI_yes h2, show (seed + factI n).toNat = seed.toNat + factN n.toNat by unfold factI; omega, lotsOf_more]
/-- **Each order of two lots has a seed.** -/
theorem lotsI_swap {n seed : Int} (h : okLots n seed = true) (h2 : 2 ≤ n) : ∃ q : Nat, q < 120 ∧ lotsI n (q : Int) = (lotsI n seed)[1]?.getD 0 :: (lotsI n seed)[0]?.getD 0 :: (lotsI n seed).drop 2 := by
  have hh := okLots_of h
  obtain ⟨m, rfl⟩ := Int.eq_ofNat_of_zero_le (show 0 ≤ n by omega)
  obtain ⟨s, rfl⟩ := Int.eq_ofNat_of_zero_le (show 0 ≤ seed by omega)
  rw [lotsI_yes h, Int.toNat_natCast, Int.toNat_natCast, lotsOf_mod m s]
  have hf : 0 < factN m := by rw [fact_small m (by omega)]; have e : m = 2 ∨ m = 3 ∨ m = 4 ∨ m = 5 := by omega
                              rcases e with rfl | rfl | rfl | rfl <;> decide
  obtain ⟨q, hq, he⟩ := lots_swap_all m (by omega) (by omega) (s % factN m) (Nat.mod_lt _ hf)
  refine ⟨q, hq, ?_⟩
  rw [lotsI_yes (okLots_yes (by omega) (by omega) (by omega) (by omega)), Int.toNat_natCast, Int.toNat_natCast, he]

/-- Lots turned about are lots. -/
theorem lotsB_reverse {zs : List Int} (h : lotsB zs = true) : lotsB zs.reverse = true := lotsB_perm h (List.reverse_perm zs)
/-- **Lots whose last one is exchanged for the first are none.** -/
theorem lotsB_twice {zs : List Int} (h2 : 2 ≤ zs.length) : lotsB (zs.take (zs.length - 1) ++ [zs[0]?.getD 0]) = false := by
  cases hv : lotsB (zs.take (zs.length - 1) ++ [zs[0]?.getD 0])
  · rfl
  · exfalso
    have hn := vB_nodup hv
    rw [List.nodup_append] at hn
    have hm : zs[0]?.getD 0 ∈ zs.take (zs.length - 1) := by
      have h0 : 0 < zs.length := by omega
      have h1 : 0 < (zs.take (zs.length - 1)).length := by simp; omega
      have e : zs[0]?.getD 0 = (zs.take (zs.length - 1))[0] := by simp [h0]
      rw [e]; exact List.getElem_mem h1
    exact hn.2.2 _ hm _ (by simp) rfl

/-- What LotsFirst returns. -/
def pickB (zs : List Int) (L : List Bool) : Int := if lotsB zs = true ∧ L.length = zs.length then pickL zs L else -1
theorem lotsB_mem {zs : List Int} (h : lotsB zs = true) : ∀ z ∈ zs, 0 ≤ z ∧ z < (zs.length : Int) := (vB_mem h).2.2
/-- What LotsSeal returns. -/
def sealB (a b : Int) : Int := if inB a 0 999 = true ∧ inB b 0 999 = true then sealV a b else -1
theorem inB_of {x lo hi : Int} (h : inB x lo hi = true) : lo ≤ x ∧ x ≤ hi := by simpa [inB] using h
theorem inB_yes {x lo hi : Int} (h1 : lo ≤ x) (h2 : x ≤ hi) : inB x lo hi = true := by simp [inB]; omega
theorem inB_no {x lo hi : Int} (h : x < lo ∨ hi < x) : inB x lo hi = false := by simp [inB]; omega
theorem sealB_yes {a b : Int} (ha : 0 ≤ a ∧ a ≤ 999) (hb : 0 ≤ b ∧ b ≤ 999) : sealB a b = sealV a b := by rw [sealB, if_pos ⟨inB_yes ha.1 ha.2, inB_yes hb.1 hb.2⟩]
theorem sealB_no {a b : Int} (h : (a < 0 ∨ 999 < a) ∨ (b < 0 ∨ 999 < b)) : sealB a b = -1 := by
  rw [sealB, if_neg]
  rintro ⟨h1, h2⟩
  have := inB_of h1; have := inB_of h2; omega
theorem sealB_neg {a b : Int} : sealB a b < 0 ↔ ¬ ((0 ≤ a ∧ a ≤ 999) ∧ 0 ≤ b ∧ b ≤ 999) := by
  constructor
  · rintro h ⟨ha, hb⟩
    rw [sealB_yes ha hb, sealV] at h
    have := Int.emod_nonneg (a * 7919 + b * 104729 + 12345) (show (1000003 : Int) ≠ 0 by decide)
    omega
  · intro h
    rw [sealB_no (by omega)]; decide

end Go.Proofs.Ytmbhcgdapglbgaa

namespace Go.Proofs.Ytmbhcgdapglbgaa

abbrev Fr := Int × Int
def gcdI (a b : Int) : Nat := Nat.gcd a.natAbs b.natAbs
/-- A fraction is valid. -/
def fracB (f : Fr) : Bool := inB f.1 (-9999999) 9999999 && (inB f.2 1 9999999 && decide (gcdI f.1 f.2 = 1))
theorem fracB_iff (f : Fr) : fracB f = true ↔ (-9999999 ≤ f.1 ∧ f.1 ≤ 9999999) ∧ (1 ≤ f.2 ∧ f.2 ≤ 9999999) ∧ gcdI f.1 f.2 = 1 := by simp [fracB, inB]
/-- Reduced, with a denominator greater than 0. -/
def Red (f : Fr) : Prop := 0 < f.2 ∧ gcdI f.1 f.2 = 1
theorem fracB_red {f : Fr} (h : fracB f = true) : Red f := by obtain ⟨_, h2, h3⟩ := (fracB_iff f).1 h; exact ⟨by omega, h3⟩
/-- The fraction without common factors. -/
def ofF (n d : Int) : Fr := (n / (gcdI n d : Int), d / (gcdI n d : Int))
/-- Two fractions are one number. -/
def SameF (a b : Fr) : Prop := a.1 * b.2 = b.1 * a.2

theorem gcdI_pos {n d : Int} (hd : 0 < d) : 0 < gcdI n d := Nat.gcd_pos_of_pos_right _ (by omega)
theorem gcdI_dvd_left (n d : Int) : (gcdI n d : Int) ∣ n := by
  have : gcdI n d ∣ n.natAbs := Nat.gcd_dvd_left _ _
  exact Int.ofNat_dvd_left.2 this
theorem gcdI_dvd_right (n d : Int) : (gcdI n d : Int) ∣ d := by
  have : gcdI n d ∣ d.natAbs := Nat.gcd_dvd_right _ _
  exact Int.ofNat_dvd_left.2 this
theorem ofF_mul (n d : Int) : (ofF n d).1 * (gcdI n d : Int) = n ∧ (ofF n d).2 * (gcdI n d : Int) = d :=
  ⟨Int.ediv_mul_cancel (gcdI_dvd_left n d), Int.ediv_mul_cancel (gcdI_dvd_right n d)⟩
theorem ofF_red {n d : Int} (hd : 0 < d) : Red (ofF n d) := by
  have hg := gcdI_pos (n := n) hd
  obtain ⟨h1, h2⟩ := ofF_mul n d
  constructor
  · apply Int.pos_of_mul_pos_left (b := (gcdI n d : Int)) _ (by omega)
    omega
  · have e1 : (ofF n d).1.natAbs * gcdI n d = n.natAbs := by
      have := congrArg Int.natAbs h1
      rwa [Int.natAbs_mul, Int.natAbs_natCast] at this
    have e2 : (ofF n d).2.natAbs * gcdI n d = d.natAbs := by
      have := congrArg Int.natAbs h2
      rwa [Int.natAbs_mul, Int.natAbs_natCast] at this
    have e3 : gcdI (ofF n d).1 (ofF n d).2 * gcdI n d = gcdI n d := by
      unfold gcdI at e1 e2 ⊢
      rw [← Nat.gcd_mul_right, e1, e2]
    exact Nat.eq_of_mul_eq_mul_right hg (by rw [e3, Nat.one_mul])
theorem ofF_same {n d : Int} : SameF (ofF n d) (n, d) := by
  obtain ⟨h1, h2⟩ := ofF_mul n d
  show (ofF n d).1 * d = n * (ofF n d).2
  obtain ⟨u, hu⟩ : ∃ u, (ofF n d).1 = u := ⟨_, rfl⟩
  obtain ⟨v, hv⟩ : ∃ v, (ofF n d).2 = v := ⟨_, rfl⟩
  rw [hu] at h1 ⊢
  rw [hv] at h2 ⊢
  calc u * d = u * (v * (gcdI n d : Int)) := by rw [h2]
    _ = u * (gcdI n d : Int) * v := by rw [Int.mul_comm v, Int.mul_assoc]
    _ = n * v := by rw [h1]
/-- Reduced fractions that are one number are the same. -/
theorem red_eq {a b : Fr} (ha : Red a) (hb : Red b) (h : SameF a b) : a = b := by
  obtain ⟨a1, a2⟩ := ha
  obtain ⟨b1, b2⟩ := hb
  have hn : a.1.natAbs * b.2.natAbs = b.1.natAbs * a.2.natAbs := by
    rw [← Int.natAbs_mul, ← Int.natAbs_mul, h]
  have d1 : a.2.natAbs ∣ b.2.natAbs := by
    have : a.2.natAbs ∣ a.1.natAbs * b.2.natAbs := by rw [hn]; exact Nat.dvd_mul_left _ _
    exact Nat.Coprime.dvd_of_dvd_mul_left (Nat.Coprime.symm a2) this
  have d2 : b.2.natAbs ∣ a.2.natAbs := by
    have : b.2.natAbs ∣ b.1.natAbs * a.2.natAbs := by rw [← hn]; exact Nat.dvd_mul_left _ _
    exact Nat.Coprime.dvd_of_dvd_mul_left (Nat.Coprime.symm b2) this
  have e : a.2 = b.2 := by have := Nat.dvd_antisymm d1 d2; omega
  unfold SameF at h
  rw [e] at h
  exact Prod.ext (Int.eq_of_mul_eq_mul_right (by omega) h) e
theorem SameF.symm {a b : Fr} (h : SameF a b) : SameF b a := by unfold SameF at *; rw [h]
theorem SameF.trans {a b c : Fr} (hb : b.2 ≠ 0) (h : SameF a b) (k : SameF b c) : SameF a c := by
  unfold SameF at *
  apply Int.eq_of_mul_eq_mul_right hb
  calc a.1 * c.2 * b.2 = (a.1 * b.2) * c.2 := by rw [Int.mul_assoc, Int.mul_comm c.2, ← Int.mul_assoc]
    _ = (b.1 * c.2) * a.2 := by rw [h, Int.mul_assoc, Int.mul_comm a.2, ← Int.mul_assoc]
    _ = c.1 * a.2 * b.2 := by rw [k, Int.mul_assoc, Int.mul_comm b.2, ← Int.mul_assoc]
/-- The sum, the product: not reduced. -/
def sumF (a b : Fr) : Fr := (a.1 * b.2 + b.1 * a.2, a.2 * b.2)
def proF (a b : Fr) : Fr := (a.1 * b.1, a.2 * b.2)
theorem sumF_comm (a b : Fr) : sumF a b = sumF b a := by
  unfold sumF
  rw [Int.add_comm, Int.mul_comm a.2]
theorem proF_comm (a b : Fr) : proF a b = proF b a := by
  unfold proF
  rw [Int.mul_comm a.1, Int.mul_comm a.2]

/-- The order. -/
def lessF (a b : Fr) : Bool := decide (a.1 * b.2 < b.1 * a.2)
theorem less_one {a b : Fr} (ha : Red a) (hb : Red b) : ¬ (lessF a b = true ∧ lessF b a = true) ∧ (a = b ↔ lessF a b = false ∧ lessF b a = false) := by
  simp only [lessF, decide_eq_true_eq, decide_eq_false_iff_not]
  refine ⟨fun ⟨h1, h2⟩ => by omega, fun h => by subst h; exact ⟨by omega, by omega⟩, fun ⟨h1, h2⟩ => red_eq ha hb (by unfold SameF; omega)⟩
theorem sumF_pos {a b : Fr} (ha : 0 < a.2) (hb : 0 < b.2) : 0 < (sumF a b).2 := Int.mul_pos ha hb
theorem proF_pos {a b : Fr} (ha : 0 < a.2) (hb : 0 < b.2) : 0 < (proF a b).2 := Int.mul_pos ha hb
/-- Sums and products of one number are one number. -/
theorem sumF_same {a b c : Fr} (h : SameF a b) : SameF (sumF a c) (sumF b c) := by
  unfold SameF sumF at *
  grind
theorem proF_same {a b c : Fr} (h : SameF a b) : SameF (proF a c) (proF b c) := by
  unfold SameF proF at *
  grind
/-- A sum less one of its parts is the other. -/
theorem sum_back (a b : Fr) : SameF (sumF (sumF a b) (0 - a.1, a.2)) (b.1 * a.2 * a.2, b.2 * a.2 * a.2) := by
  unfold SameF sumF
  grind
theorem scale_same (b : Fr) (k : Int) : SameF (b.1 * k, b.2 * k) b := by
  unfold SameF
  grind
/-- Products of sums are sums of products. -/
theorem over_same (a b k : Fr) : SameF (proF (sumF a b) k) (sumF (proF a k) (proF b k)) := by
  unfold SameF proF sumF
  grind
/-- A sum with a greater fraction is greater. -/
theorem less_sum {a b k : Fr} (hk : 0 < k.2) (h : lessF a b = true) : lessF (sumF a k) (sumF b k) = true := by
  simp only [lessF, sumF, decide_eq_true_eq] at *
  have h1 : 0 < k.2 * k.2 := Int.mul_pos hk hk
  have h2 : a.1 * b.2 * (k.2 * k.2) < b.1 * a.2 * (k.2 * k.2) := Int.mul_lt_mul_of_pos_right h h1
  grind
/-- The order hangs on the numbers alone. -/
theorem less_same_imp {a b c : Fr} (ha : 0 < a.2) (hb : 0 < b.2) (h : SameF a b) (g : a.1 * c.2 < c.1 * a.2) : b.1 * c.2 < c.1 * b.2 := by
  unfold SameF at h
  have h2 : a.1 * c.2 * b.2 < c.1 * a.2 * b.2 := Int.mul_lt_mul_of_pos_right g hb
  have e1 : a.1 * c.2 * b.2 = b.1 * c.2 * a.2 := by
    rw [Int.mul_right_comm a.1, h]
    simp only [Int.mul_comm, Int.mul_left_comm]
  have e2 : c.1 * a.2 * b.2 = c.1 * b.2 * a.2 := Int.mul_right_comm _ _ _
  rw [e1, e2] at h2
  exact Int.lt_of_mul_lt_mul_right h2 (Int.le_of_lt ha)

theorem less_same_imp' {a b c : Fr} (ha : 0 < a.2) (hb : 0 < b.2) (h : SameF a b) (g : c.1 * a.2 < a.1 * c.2) : c.1 * b.2 < b.1 * c.2 := by
  unfold SameF at h
  have h2 : c.1 * a.2 * b.2 < a.1 * c.2 * b.2 := Int.mul_lt_mul_of_pos_right g hb
  have e1 : a.1 * c.2 * b.2 = b.1 * c.2 * a.2 := by
    rw [Int.mul_right_comm a.1, h]
    simp only [Int.mul_comm, Int.mul_left_comm]
  have e2 : c.1 * a.2 * b.2 = c.1 * b.2 * a.2 := Int.mul_right_comm _ _ _
  rw [e1, e2] at h2
  exact Int.lt_of_mul_lt_mul_right h2 (Int.le_of_lt ha)

theorem same_symm {a b : Fr} (h : SameF a b) : SameF b a := by
  unfold SameF at h ⊢
  rw [h]

theorem less_same {a b c : Fr} (ha : 0 < a.2) (hb : 0 < b.2) (h : SameF a b) : lessF a c = lessF b c ∧ lessF c a = lessF c b := by
  simp only [lessF, decide_eq_decide]
  exact ⟨⟨less_same_imp ha hb h, less_same_imp hb ha (same_symm h)⟩, ⟨less_same_imp' ha hb h, less_same_imp' hb ha (same_symm h)⟩⟩

end Go.Proofs.Ytmbhcgdapglbgaa

namespace Go.Proofs.Ytmbhcgdapglbgaa

/-- Bounds. -/
theorem mul_bound {x y : Int} (hx : -9999999 ≤ x ∧ x ≤ 9999999) (hy : 0 ≤ y ∧ y ≤ 9999999) : -99999980000001 ≤ x * y ∧ x * y ≤ 99999980000001 := by
  have h1 : x * y ≤ 9999999 * y := Int.mul_le_mul_of_nonneg_right hx.2 hy.1
  have h2 : -9999999 * y ≤ x * y := Int.mul_le_mul_of_nonneg_right hx.1 hy.1
  omega
theorem mul_bound2 {x y : Int} (hx : -9999999 ≤ x ∧ x ≤ 9999999) (hy : -9999999 ≤ y ∧ y ≤ 9999999) : -99999980000001 ≤ x * y ∧ x * y ≤ 99999980000001 := by
  rcases Int.le_total 0 y with h | h
  · exact mul_bound hx ⟨h, hy.2⟩
  · have := mul_bound hx (y := -y) ⟨by omega, by omega⟩
    rw [Int.mul_neg] at this
    omega

theorem fracB_of {f : Fr} (h1 : -9999999 ≤ f.1 ∧ f.1 ≤ 9999999) (h2 : 1 ≤ f.2 ∧ f.2 ≤ 9999999) (h3 : gcdI f.1 f.2 = 1) : fracB f = true := (fracB_iff f).2 ⟨h1, h2, h3⟩
theorem fracB_den {f : Fr} (h : fracB f = true) : 0 < f.2 := by have := (fracB_iff f).1 h; omega
/-- A number is not made greater by division. -/
theorem ofF_bound {n d : Int} (hd : 0 < d) : (ofF n d).1.natAbs ≤ n.natAbs ∧ 1 ≤ (ofF n d).2 ∧ (ofF n d).2 ≤ d := by
  have hg := gcdI_pos (n := n) hd
  obtain ⟨h1, h2⟩ := ofF_mul n d
  have hr := (ofF_red (n := n) hd).1
  refine ⟨?_, by omega, ?_⟩
  · have e1 : (ofF n d).1.natAbs * gcdI n d = n.natAbs := by
      have := congrArg Int.natAbs h1
      rwa [Int.natAbs_mul, Int.natAbs_natCast] at this
    rw [← e1]; exact Nat.le_mul_of_pos_right _ hg
  · have h3 : (ofF n d).2 * 1 ≤ (ofF n d).2 * (gcdI n d : Int) := Int.mul_le_mul_of_nonneg_left (by omega) (by omega)
    omega
theorem ofF_self {f : Fr} (h : Red f) : ofF f.1 f.2 = f := red_eq (ofF_red h.1) h ofF_same
/-- The fraction of a number hangs on the number alone. -/
theorem ofF_same_eq {n d n' d' : Int} (hd : 0 < d) (hd' : 0 < d') (h : n * d' = n' * d) : ofF n d = ofF n' d' :=
  red_eq (ofF_red hd) (ofF_red hd') ((SameF.trans (b := (n, d)) (by show d ≠ 0; omega) ofF_same (SameF.trans (b := (n', d')) (by show d' ≠ 0; omega) h (same_symm ofF_same))))

/-- FracOf. -/
def ofOk (n d : Int) : Bool := inB n (-9999999) 9999999 && inB d 1 9999999
def ofR (n d : Int) : Fr := if ofOk n d = true then ofF n d else (0, 0)
theorem ofOk_iff (n d : Int) : ofOk n d = true ↔ (-9999999 ≤ n ∧ n ≤ 9999999) ∧ 1 ≤ d ∧ d ≤ 9999999 := by simp [ofOk, inB]
theorem ofR_yes {n d : Int} (h : ofOk n d = true) : ofR n d = ofF n d := by rw [ofR, if_pos h]
theorem ofR_no {n d : Int} (h : ofOk n d = false) : ofR n d = (0, 0) := by rw [ofR, h]; rfl
/-- FracAdd, FracTimes. -/
def addOk (a b : Fr) : Bool := fracB a && (fracB b && fracB (ofF (sumF a b).1 (sumF a b).2))
def addR (a b : Fr) : Fr := if addOk a b = true then ofF (sumF a b).1 (sumF a b).2 else (0, 0)
def mulOk (a b : Fr) : Bool := fracB a && (fracB b && fracB (ofF (proF a b).1 (proF a b).2))
def mulR (a b : Fr) : Fr := if mulOk a b = true then ofF (proF a b).1 (proF a b).2 else (0, 0)
/-- FracLess. -/
def lessB (a b : Fr) : Bool := fracB a && (fracB b && lessF a b)
theorem addOk_iff (a b : Fr) : addOk a b = true ↔ fracB a = true ∧ fracB b = true ∧ fracB (ofF (sumF a b).1 (sumF a b).2) = true := by simp [addOk]
theorem mulOk_iff (a b : Fr) : mulOk a b = true ↔ fracB a = true ∧ fracB b = true ∧ fracB (ofF (proF a b).1 (proF a b).2) = true := by simp [mulOk]
theorem lessB_iff (a b : Fr) : lessB a b = true ↔ fracB a = true ∧ fracB b = true ∧ lessF a b = true := by simp [lessB]
theorem addR_yes {a b : Fr} (h : addOk a b = true) : addR a b = ofF (sumF a b).1 (sumF a b).2 := by rw [addR, if_pos h]
theorem addR_no {a b : Fr} (h : addOk a b = false) : addR a b = (0, 0) := by rw [addR, h]; rfl
theorem mulR_yes {a b : Fr} (h : mulOk a b = true) : mulR a b = ofF (proF a b).1 (proF a b).2 := by rw [mulR, if_pos h]
theorem mulR_no {a b : Fr} (h : mulOk a b = false) : mulR a b = (0, 0) := by rw [mulR, h]; rfl
/-- What is summed up or multiplied fits into an int. -/
theorem sumF_bound {a b : Fr} (ha : fracB a = true) (hb : fracB b = true) : (-199999960000002 ≤ (sumF a b).1 ∧ (sumF a b).1 ≤ 199999960000002) ∧ 0 < (sumF a b).2 ∧ (sumF a b).2 ≤ 99999980000001 := by
  obtain ⟨a1, a2, _⟩ := (fracB_iff a).1 ha
  obtain ⟨b1, b2, _⟩ := (fracB_iff b).1 hb
  have h1 := mul_bound a1 (y := b.2) ⟨by omega, by omega⟩
  have h2 := mul_bound b1 (y := a.2) ⟨by omega, by omega⟩
  have h3 := mul_bound (x := a.2) ⟨by omega, by omega⟩ (y := b.2) ⟨by omega, by omega⟩
  have h4 := sumF_pos (a := a) (b := b) (by omega) (by omega)
  unfold sumF at *
  exact ⟨⟨by omega, by omega⟩, h4, h3.2⟩
theorem proF_bound {a b : Fr} (ha : fracB a = true) (hb : fracB b = true) : (-99999980000001 ≤ (proF a b).1 ∧ (proF a b).1 ≤ 99999980000001) ∧ 0 < (proF a b).2 ∧ (proF a b).2 ≤ 99999980000001 := by
  obtain ⟨a1, a2, _⟩ := (fracB_iff a).1 ha
  obtain ⟨b1, b2, _⟩ := (fracB_iff b).1 hb
  have h1 := mul_bound2 a1 b1
  have h3 := mul_bound (x := a.2) ⟨by omega, by omega⟩ (y := b.2) ⟨by omega, by omega⟩
  have h4 := proF_pos (a := a) (b := b) (by omega) (by omega)
  unfold proF at *
  exact ⟨h1, h4, h3.2⟩
theorem addR_valid {a b : Fr} (h : addOk a b = true) : fracB (addR a b) = true := by rw [addR_yes h]; exact ((addOk_iff a b).1 h).2.2
theorem mulR_valid {a b : Fr} (h : mulOk a b = true) : fracB (mulR a b) = true := by rw [mulR_yes h]; exact ((mulOk_iff a b).1 h).2.2

/-- **A fraction is reduced** (promise 29). -/
theorem of_valid {n d : Int} (h : ofOk n d = true) : fracB (ofR n d) = true ∧ (ofR n d).1 * d = n * (ofR n d).2 := by
  obtain ⟨h1, h2⟩ := (ofOk_iff n d).1 h
  have hd : 0 < d := by omega
  rw [ofR_yes h]
  obtain ⟨b1, b2, b3⟩ := ofF_bound (n := n) hd
  refine ⟨fracB_of ⟨by omega, by omega⟩ ⟨by omega, by omega⟩ (ofF_red hd).2, ofF_same⟩
theorem of_three {n d : Int} (h : ofOk n d = true) (h3 : ofOk (3 * n) (3 * d) = true) : ofR (3 * n) (3 * d) = ofR n d := by
  obtain ⟨h1, h2⟩ := (ofOk_iff n d).1 h
  rw [ofR_yes h, ofR_yes h3]
  refine ofF_same_eq (by omega) (by omega) ?_
  rw [Int.mul_comm 3 n, Int.mul_assoc]
/-- **Sums have no order** (promise 30). -/
theorem add_comm_ok (a b : Fr) : addOk b a = addOk a b ∧ addR b a = addR a b := by
  have e : addOk b a = addOk a b := by
    rw [Bool.eq_iff_iff, addOk_iff, addOk_iff, sumF_comm b a]
    exact ⟨fun ⟨h1, h2, h3⟩ => ⟨h2, h1, h3⟩, fun ⟨h1, h2, h3⟩ => ⟨h2, h1, h3⟩⟩
  exact ⟨e, by unfold addR; rw [e, sumF_comm b a]⟩
theorem neg_valid {a : Fr} (h : fracB a = true) : fracB (0 - a.1, a.2) = true := by
  obtain ⟨h1, h2, h3⟩ := (fracB_iff a).1 h
  refine fracB_of ⟨by show -9999999 ≤ 0 - a.1; omega, by show 0 - a.1 ≤ 9999999; omega⟩ h2 ?_
  show gcdI (0 - a.1) a.2 = 1
  unfold gcdI at h3 ⊢
  rw [Int.zero_sub, Int.natAbs_neg]; exact h3
theorem add_back {a b : Fr} (h : addOk a b = true) : addOk (addR a b) (0 - a.1, a.2) = true ∧ addR (addR a b) (0 - a.1, a.2) = b := by
  obtain ⟨ha, hb, hs⟩ := (addOk_iff a b).1 h
  have da := fracB_den ha
  have db := fracB_den hb
  have hsd := sumF_pos (a := a) (b := b) da db
  have hv := addR_valid h
  have dr := fracB_den hv
  have hS : SameF (addR a b) (sumF a b) := by rw [addR_yes h]; exact ofF_same
  have hback : SameF (sumF (addR a b) (0 - a.1, a.2)) b := by
    refine SameF.trans (b := sumF (sumF a b) (0 - a.1, a.2)) ?_ (sumF_same hS) (SameF.trans (b := (b.1 * a.2 * a.2, b.2 * a.2 * a.2)) ?_ (sum_back a b) ?_)
    · have := sumF_pos (a := sumF a b) (b := (0 - a.1, a.2)) hsd da
      omega
    · show b.2 * a.2 * a.2 ≠ 0
      have := Int.mul_pos (Int.mul_pos db da) da
      omega
    · have := scale_same b (a.2 * a.2)
      rwa [← Int.mul_assoc, ← Int.mul_assoc] at this
  have hd2 : 0 < (sumF (addR a b) (0 - a.1, a.2)).2 := sumF_pos (a := addR a b) (b := (0 - a.1, a.2)) dr da
  have he : ofF (sumF (addR a b) (0 - a.1, a.2)).1 (sumF (addR a b) (0 - a.1, a.2)).2 = b :=
    red_eq (ofF_red hd2) (fracB_red hb) (SameF.trans (b := sumF (addR a b) (0 - a.1, a.2)) (by omega) ofF_same hback)
  have hok : addOk (addR a b) (0 - a.1, a.2) = true := (addOk_iff _ _).2 ⟨hv, neg_valid ha, by rw [he]; exact hb⟩
  exact ⟨hok, by rw [addR_yes hok, he]⟩
/-- **A sum is exact** (promise 31), **a product, too** (promise 32). -/
theorem add_exact {a b : Fr} (h : addOk a b = true) (h2 : ofOk (a.1 * b.2 + b.1 * a.2) (a.2 * b.2) = true) : ofR (a.1 * b.2 + b.1 * a.2) (a.2 * b.2) = addR a b := by rw [ofR_yes h2, addR_yes h]; rfl
theorem mul_comm_ok (a b : Fr) : mulOk b a = mulOk a b ∧ mulR b a = mulR a b := by
  have e : mulOk b a = mulOk a b := by
    rw [Bool.eq_iff_iff, mulOk_iff, mulOk_iff, proF_comm b a]
    exact ⟨fun ⟨h1, h2, h3⟩ => ⟨h2, h1, h3⟩, fun ⟨h1, h2, h3⟩ => ⟨h2, h1, h3⟩⟩
  exact ⟨e, by unfold mulR; rw [e, proF_comm b a]⟩
theorem mul_exact {a b : Fr} (h : mulOk a b = true) (h2 : ofOk (a.1 * b.1) (a.2 * b.2) = true) : ofR (a.1 * b.1) (a.2 * b.2) = mulR a b := by rw [ofR_yes h2, mulR_yes h]; rfl
/-- **Products of sums are sums of products** (promise 33). -/
theorem over_exact {a b k : Fr} (h : addOk a b = true) (h1 : mulOk a k = true) (h2 : mulOk b k = true) (h3 : mulOk (addR a b) k = true) (h4 : addOk (mulR a k) (mulR b k) = true) : addR (mulR a k) (mulR b k) = mulR (addR a b) k := by
  obtain ⟨ha, hb, _⟩ := (addOk_iff a b).1 h
  have hk := ((mulOk_iff a k).1 h1).2.1
  have da := fracB_den ha
  have db := fracB_den hb
  have dk := fracB_den hk
  have dx := fracB_den (mulR_valid h1)
  have dy := fracB_den (mulR_valid h2)
  have ds := fracB_den (addR_valid h)
  have sx : SameF (mulR a k) (proF a k) := by rw [mulR_yes h1]; exact ofF_same
  have sy : SameF (mulR b k) (proF b k) := by rw [mulR_yes h2]; exact ofF_same
  have ss : SameF (addR a b) (sumF a b) := by rw [addR_yes h]; exact ofF_same
  have s1 : SameF (addR (mulR a k) (mulR b k)) (sumF (mulR a k) (mulR b k)) := by rw [addR_yes h4]; exact ofF_same
  have s2 : SameF (mulR (addR a b) k) (proF (addR a b) k) := by rw [mulR_yes h3]; exact ofF_same
  have dpa := proF_pos (a := a) (b := k) da dk
  have dpb := proF_pos (a := b) (b := k) db dk
  have t1 : SameF (sumF (mulR a k) (mulR b k)) (sumF (proF a k) (mulR b k)) := sumF_same sx
  have t2 : SameF (sumF (proF a k) (mulR b k)) (sumF (proF a k) (proF b k)) := by
    rw [sumF_comm (proF a k) (mulR b k), sumF_comm (proF a k) (proF b k)]; exact sumF_same sy
  have t3 : SameF (proF (addR a b) k) (proF (sumF a b) k) := proF_same ss
  have t4 := over_same a b k
  refine red_eq (fracB_red (addR_valid h4)) (fracB_red (mulR_valid h3)) ?_
  have n1 : (sumF (mulR a k) (mulR b k)).2 ≠ 0 := by have := sumF_pos (a := mulR a k) (b := mulR b k) dx dy; omega
  have n2 : (sumF (proF a k) (mulR b k)).2 ≠ 0 := by have := sumF_pos (a := proF a k) (b := mulR b k) dpa dy; omega
  have n3 : (sumF (proF a k) (proF b k)).2 ≠ 0 := by have := sumF_pos (a := proF a k) (b := proF b k) dpa dpb; omega
  have n4 : (proF (sumF a b) k).2 ≠ 0 := by have := proF_pos (a := sumF a b) (b := k) (sumF_pos da db) dk; omega
  have n5 : (proF (addR a b) k).2 ≠ 0 := by have := proF_pos (a := addR a b) (b := k) ds dk; omega
  exact SameF.trans n1 s1 (SameF.trans n2 t1 (SameF.trans n3 t2 (SameF.trans n4 (same_symm t4) (SameF.trans n5 (same_symm t3) (same_symm s2)))))
/-- **One of two fractions is less, or both are equal** (promise 34). -/
theorem less_law {a b : Fr} (ha : fracB a = true) (hb : fracB b = true) : (lessB a b && lessB b a) = false ∧ (decide (a = b) = (!lessB a b && !lessB b a)) := by
  have h := less_one (fracB_red ha) (fracB_red hb)
  have e1 : lessB a b = lessF a b := by simp [lessB, ha, hb]
  have e2 : lessB b a = lessF b a := by simp [lessB, ha, hb]
  rw [e1, e2]
  refine ⟨?_, ?_⟩
  · cases h1 : lessF a b <;> cases h2 : lessF b a <;> first | rfl | exact absurd ⟨h1, h2⟩ h.1
  · rw [Bool.eq_iff_iff, decide_eq_true_eq, h.2]; simp
/-- **A sum with a greater fraction is greater** (promise 35). -/
theorem less_add {a b k : Fr} (h : lessB a b = true) (h1 : addOk a k = true) (h2 : addOk b k = true) : lessB (addR a k) (addR b k) = true := by
  obtain ⟨ha, hb, hl⟩ := (lessB_iff a b).1 h
  have hk := ((addOk_iff a k).1 h1).2.1
  have da := fracB_den ha
  have db := fracB_den hb
  have dk := fracB_den hk
  have va := addR_valid h1
  have vb := addR_valid h2
  refine (lessB_iff _ _).2 ⟨va, vb, ?_⟩
  have sa : SameF (sumF a k) (addR a k) := by rw [addR_yes h1]; exact same_symm ofF_same
  have sb : SameF (sumF b k) (addR b k) := by rw [addR_yes h2]; exact same_symm ofF_same
  have h3 := less_sum dk hl
  rw [(less_same (sumF_pos da dk) (fracB_den va) sa).1] at h3
  rwa [(less_same (sumF_pos db dk) (fracB_den vb) sb).2] at h3
/-- **A fraction has no common factor** (promise 37). -/
theorem part_two (f : Fr) : fracB (2 * f.1, 2 * f.2) = false := by
  cases hv : fracB (2 * f.1, 2 * f.2)
  · rfl
  · exfalso
    have h3 := ((fracB_iff _).1 hv).2.2
    have : gcdI (2 * f.1) (2 * f.2) = 2 * gcdI f.1 f.2 := by
      unfold gcdI
      rw [Int.natAbs_mul, Int.natAbs_mul]; exact Nat.gcd_mul_left _ _ _
    have h4 : gcdI (2 * f.1) (2 * f.2) = 1 := h3
    omega
theorem part_zero (n : Int) : fracB (n, 0) = false := by
  cases hv : fracB (n, 0)
  · rfl
  · have h2 := ((fracB_iff _).1 hv).2.1
    have : (1 : Int) ≤ 0 := h2.1
    omega

/-- The loop of the greatest common divisor. -/
theorem gcd_step (a b : Nat) : Nat.gcd b (a % b) = Nat.gcd a b := by rw [Nat.gcd_comm b, ← Nat.gcd_rec, Nat.gcd_comm]
theorem max_abs (n : Int) (h : -9223372036854775807 ≤ n) : (if n < 0 - n then 0 - n else n) = (n.natAbs : Int) := by split <;> omega

end Go.Proofs.Ytmbhcgdapglbgaa
