/-
  Lots, as lists: what they are, how a seed draws them, the first of some, the seal. Of no memory.
  Sums over all ballots of piles, as lists: of parts, of merged piles, of piles with two candidates exchanged. Of no memory.
  Seats by divisors: who gets the next one, and that the check holds. Votes and seats are functions of a party's number; lots are a list. Of no memory.
-/
import Derived.Test.YtafnmongglhlaaaGrp1
import Derived.Test.YtafnmongglhlaaaGrp2
namespace Go.Proofs.Ytafnmongglhlaaa

/-- Lots are valid. -/
def lotsB (zs : List Int) : Bool := validB zs (zs.length : Int)
theorem lotsB_len {zs : List Int} (h : lotsB zs = true) : 1 ≤ zs.length ∧ zs.length ≤ 5 := by have := vB_mem h; omega
theorem lotsB_perm {zs ys : List Int} (h : lotsB zs = true) (hp : ys.Perm zs) : lotsB ys = true := by
  have hm := vB_mem h
  have hd := vB_nodup h
  unfold lotsB
  rw [hp.length_eq]
  exact vB_of hm.1 hm.2.1 (hp.nodup_iff.2 hd) (fun z hz => hm.2.2 z (hp.mem_iff.1 hz))

/-- The lots that a seed draws out of a list; 'f' bounds the draws. -/
def lotL : Nat → List Int → Nat → List Int
  | 0, _, _ => []
  | f + 1, rest, seed => if rest.length = 0 then [] else rest[seed % rest.length]?.getD 0 :: lotL f (rest.eraseIdx (seed % rest.length)) (seed / rest.length)
theorem lotL_nil (f seed : Nat) : lotL f [] seed = [] := by cases f <;> rfl
theorem lotL_step (f : Nat) (rest : List Int) (seed : Nat) (h : rest.length ≠ 0) : lotL (f + 1) rest seed = rest[seed % rest.length]?.getD 0 :: lotL f (rest.eraseIdx (seed % rest.length)) (seed / rest.length) := by rw [lotL, if_neg h]
theorem lotL_length : ∀ (f : Nat) (rest : List Int) (seed : Nat), rest.length ≤ f → (lotL f rest seed).length = rest.length
  | 0, rest, seed, h => by simp [lotL]; omega
  | f + 1, rest, seed, h => by
    by_cases h0 : rest.length = 0
    · rw [List.length_eq_zero_iff.1 h0, lotL_nil]
    · have hm := Nat.mod_lt seed (show 0 < rest.length by omega)
      have he : (rest.eraseIdx (seed % rest.length)).length = rest.length - 1 := by rw [List.length_eraseIdx, if_pos hm]
      rw [lotL_step f rest seed h0, List.length_cons, lotL_length f _ _ (by omega), he]; omega
theorem erase_perm : ∀ (l : List Int) (i : Nat) (h : i < l.length), (l[i] :: l.eraseIdx i).Perm l
  | [], i, h => by simp at h
  | a :: t, 0, _ => by simp
  | a :: t, i + 1, h => by
    have ih := erase_perm t i (by simpa using h)
    simp only [List.getElem_cons_succ, List.eraseIdx_cons_succ]
    exact (List.Perm.swap a _ _).trans (List.Perm.cons a ih)
theorem lotL_perm : ∀ (f : Nat) (rest : List Int) (seed : Nat), rest.length ≤ f → (lotL f rest seed).Perm rest
  | 0, rest, seed, h => by rw [List.length_eq_zero_iff.1 (show rest.length = 0 by omega)]; exact List.Perm.refl _
  | f + 1, rest, seed, h => by
    by_cases h0 : rest.length = 0
    · rw [List.length_eq_zero_iff.1 h0, lotL_nil]
    · have hm := Nat.mod_lt seed (show 0 < rest.length by omega)
      have he : (rest.eraseIdx (seed % rest.length)).length = rest.length - 1 := by rw [List.length_eraseIdx, if_pos hm]
      rw [lotL_step f rest seed h0]
      have h1 := lotL_perm f (rest.eraseIdx (seed % rest.length)) (seed / rest.length) (by omega)
      have e : rest[seed % rest.length]?.getD 0 = rest[seed % rest.length] := by simp [hm]
      rw [e]
      exact (List.Perm.cons _ h1).trans (erase_perm _ _ hm)

/-- The factorial. -/
def factN : Nat → Nat
  | 0 => 1
  | n + 1 => (n + 1) * factN n
/-- **Seeds repeat.** -/
theorem lotL_more : ∀ (f : Nat) (rest : List Int) (seed : Nat), rest.length ≤ f → lotL f rest (seed + factN rest.length) = lotL f rest seed
  | 0, rest, seed, h => rfl
  | f + 1, rest, seed, h => by
    by_cases h0 : rest.length = 0
    · rw [List.length_eq_zero_iff.1 h0, lotL_nil, lotL_nil]
    · obtain ⟨n, hn⟩ : ∃ n, rest.length = n + 1 := ⟨rest.length - 1, by omega⟩
      have hm := Nat.mod_lt seed (show 0 < rest.length by omega)
      have he : (rest.eraseIdx (seed % rest.length)).length = n := by rw [List.length_eraseIdx, if_pos hm]; omega
      have e1 : (seed + factN rest.length) % rest.length = seed % rest.length := by rw [hn, factN, Nat.add_mul_mod_self_left]
      have e2 : (seed + factN rest.length) / rest.length = seed / rest.length + factN n := by rw [hn, factN, Nat.add_mul_div_left _ _ (by omega)]
      rw [lotL_step f rest _ h0, lotL_step f rest _ h0, e1, e2]
      have := lotL_more f (rest.eraseIdx (seed % rest.length)) (seed / rest.length) (by omega)
      rw [he] at this
      rw [this]
/-- All candidates in ascending order. -/
def fromZero (n : Nat) : List Int := (List.range n).map fun (i : Nat) => (i : Int)
theorem fromZero_length (n : Nat) : (fromZero n).length = n := by simp [fromZero]
theorem fromZero_succ (n : Nat) : fromZero (n + 1) = fromZero n ++ [(n : Int)] := by simp [fromZero, List.range_succ]
theorem fromZero_lots {n : Nat} (h1 : 1 ≤ n) (h5 : n ≤ 5) : lotsB (fromZero n) = true := by
  unfold lotsB
  rw [fromZero_length]
  refine vB_of (by omega) (by omega) ?_ (fun z hz => ?_)
  · unfold fromZero List.Nodup
    rw [List.pairwise_map]
    exact List.Pairwise.imp (fun {a b} hab e => hab (by omega)) List.nodup_range
  · obtain ⟨i, hi, rfl⟩ := List.mem_map.1 hz
    have := List.mem_range.1 hi
    omega
/-- What LotsOf returns for n candidates. -/
def lotsOf (n seed : Nat) : List Int := lotL n (fromZero n) seed
theorem lotsOf_valid {n seed : Nat} (h1 : 1 ≤ n) (h5 : n ≤ 5) : lotsB (lotsOf n seed) = true := lotsB_perm (fromZero_lots h1 h5) (lotL_perm n _ seed (by rw [fromZero_length]; exact Nat.le_refl _))
theorem lotsOf_length (n seed : Nat) : (lotsOf n seed).length = n := by rw [lotsOf, lotL_length _ _ _ (by rw [fromZero_length]; exact Nat.le_refl _), fromZero_length]
theorem lotsOf_more (n seed : Nat) : lotsOf n (seed + factN n) = lotsOf n seed := by
  have := lotL_more n (fromZero n) seed (by rw [fromZero_length]; exact Nat.le_refl _)
  rwa [fromZero_length] at this
theorem lotsOf_mod (n seed : Nat) : lotsOf n seed = lotsOf n (seed % factN n) := by
  have h : ∀ q, lotsOf n (seed % factN n + q * factN n) = lotsOf n (seed % factN n) := fun q => by
    induction q with
    | zero => simp
    | succ q ih => rw [Nat.succ_mul, ← Nat.add_assoc, lotsOf_more, ih]
  have := h (seed / factN n)
  rwa [Nat.mul_comm, Nat.mod_add_div] at this
theorem lotsOf_head {n seed : Nat} (h1 : 1 ≤ n) : (lotsOf n seed)[0]?.getD 0 = ((seed % n : Nat) : Int) := by
  obtain ⟨k, rfl⟩ : ∃ k, n = k + 1 := ⟨n - 1, by omega⟩
  unfold lotsOf
  rw [lotL_step _ _ _ (by rw [fromZero_length]; omega), fromZero_length]
  have hm := Nat.mod_lt seed (show 0 < k + 1 by omega)
  simp [fromZero, hm]
/-- **Each order of two lots has a seed**: for each drawn order, one less than 120 has the first two exchanged. -/
theorem lots_swap_all : ∀ n, n < 6 → 2 ≤ n → ∀ s, s < factN n → ∃ q, q < 120 ∧ lotsOf n q = ((lotsOf n s)[1]?.getD 0) :: ((lotsOf n s)[0]?.getD 0) :: (lotsOf n s).drop 2 := by
  decide +kernel

/-- The first of the lots for whom 'some' is true, or -1. -/
def pickL : List Int → List Bool → Int
  | [], _ => -1
  | z :: t, L => if L[z.toNat]?.getD false = true then z else pickL t L

/-- The seal. -/
def sealV (seed secret : Int) : Int := (seed * 7919 + secret * 104729 + 12345) % 1000003
theorem small_mult {d c k m : Int} (hc : k * c = 1 + 1000003 * m) (hd : -999 ≤ d ∧ d ≤ 999) (h : (1000003 : Int) ∣ d * c) : d = 0 := by
  obtain ⟨q, hq⟩ := h
  have h1 : d = 1000003 * (k * q - m * d) := by
    have h2 : k * (d * c) = k * (1000003 * q) := by rw [hq]
    have h3 : k * (d * c) = d * (k * c) := by rw [← Int.mul_assoc, Int.mul_comm k d, Int.mul_assoc]
    rw [h3, hc, Int.mul_add, Int.mul_one] at h2
    have h4 : d * (1000003 * m) = 1000003 * (m * d) := by rw [Int.mul_left_comm, Int.mul_comm d m]
    have h5 : k * (1000003 * q) = 1000003 * (k * q) := by rw [Int.mul_left_comm]
    rw [h4, h5] at h2
    rw [Int.mul_sub]
    omega
  obtain ⟨r, hr⟩ : ∃ r, k * q - m * d = r := ⟨_, rfl⟩
  rw [hr] at h1
  omega
theorem lin_one (u v z k : Int) : u + z + k - (v + z + k) = u - v := by omega
theorem lin_two (u v z k : Int) : z + u + k - (z + v + k) = u - v := by omega
/-- **A sealed seed cannot be changed.** -/
theorem seal_seed {a b c : Int} (ha : 0 ≤ a ∧ a ≤ 999) (hb : 0 ≤ b ∧ b ≤ 999) (h : a ≠ b) : sealV a c ≠ sealV b c := by
  intro e
  have h1 := Int.dvd_of_emod_eq_zero (Int.emod_eq_emod_iff_emod_sub_eq_zero.1 e)
  have e2 := lin_one (a * 7919) (b * 7919) (c * 104729) 12345
  have e3 := e2.trans (Int.sub_mul a b 7919).symm
  have h2 : (1000003 : Int) ∣ (a - b) * 7919 := e3 ▸ h1
  clear e e2 e3 h1
  exact h (Int.sub_eq_zero.1 (small_mult (k := 658671) (m := 5216) (by decide) (by clear h2; omega) h2))
theorem seal_secret {a b c : Int} (ha : 0 ≤ a ∧ a ≤ 999) (hb : 0 ≤ b ∧ b ≤ 999) (h : a ≠ b) : sealV c a ≠ sealV c b := by
  intro e
  have h1 := Int.dvd_of_emod_eq_zero (Int.emod_eq_emod_iff_emod_sub_eq_zero.1 e)
  have e2 := lin_two (a * 104729) (b * 104729) (c * 7919) 12345
  have e3 := e2.trans (Int.sub_mul a b 104729).symm
  have h2 : (1000003 : Int) ∣ (a - b) * 104729 := e3 ▸ h1
  clear e e2 e3 h1
  exact h (Int.sub_eq_zero.1 (small_mult (k := 404531) (m := 42366) (by decide) (by clear h2; omega) h2))

end Go.Proofs.Ytafnmongglhlaaa

namespace Go.Proofs.Ytafnmongglhlaaa

/-- Each ballot counts for what f says of its text. -/
def wsum (f : ByteArray → Int) (ps : List Pl) : Int := ps.foldr (fun p s => f p.1 * p.2 + s) 0
theorem wsum_nil (f : ByteArray → Int) : wsum f [] = 0 := rfl
theorem wsum_cons (f : ByteArray → Int) (p : Pl) (ps : List Pl) : wsum f (p :: ps) = f p.1 * p.2 + wsum f ps := rfl
theorem wsum_app (f : ByteArray → Int) (a b : List Pl) : wsum f (a ++ b) = wsum f a + wsum f b := by
  induction a with
  | nil => rw [List.nil_append, wsum_nil, Int.zero_add]
  | cons p a ih => rw [List.cons_append, wsum_cons, wsum_cons, ih, Int.add_assoc]
theorem wsum_snoc (f : ByteArray → Int) (a : List Pl) (p : Pl) : wsum f (a ++ [p]) = wsum f a + f p.1 * p.2 := by
  rw [wsum_app, wsum_cons, wsum_nil, Int.add_zero]
theorem wsum_put (f : ByteArray → Int) (ps : List Pl) (t : ByteArray) (m : Int) : wsum f (putL ps t m) = wsum f ps + f t * m := by
  induction ps with
  | nil => rw [putL, wsum_cons, wsum_nil]; show f t * m + 0 = 0 + f t * m; omega
  | cons p ps ih =>
    unfold putL
    split
    · rw [wsum_cons, ih, wsum_cons]; omega
    · split
      · rename_i h1 h2
        rw [wsum_cons, wsum_cons, h2]
        show f t * (p.2 + m) + wsum f ps = f t * p.2 + wsum f ps + f t * m
        rw [Int.mul_add]; omega
      · rw [wsum_cons, wsum_cons]
        show f t * m + (f p.1 * p.2 + wsum f ps) = f p.1 * p.2 + wsum f ps + f t * m
        omega
theorem wsum_merge (f : ByteArray → Int) (a b : List Pl) : wsum f (mergeL a b) = wsum f a + wsum f b := by
  induction b generalizing a with
  | nil => rw [mergeL, wsum_nil, Int.add_zero]
  | cons p b ih => rw [mergeL, ih, wsum_put, wsum_cons]; omega
theorem wsum_map (f : ByteArray → Int) (g : ByteArray → ByteArray) (ps : List Pl) : wsum f (ps.map fun p => (g p.1, p.2)) = wsum (fun t => f (g t)) ps := by
  induction ps with
  | nil => rfl
  | cons p ps ih => rw [List.map_cons, wsum_cons, wsum_cons, ih]
theorem wsum_turn (f : ByteArray → Int) (x y : Int) (ps : List Pl) : wsum f (turnPs x y ps) = wsum (fun t => f (turnT x y t)) ps := by
  unfold turnPs
  rw [wsum_merge, wsum_nil, wsum_map, Int.zero_add]
theorem wsum_congr {f g : ByteArray → Int} {ps : List Pl} (h : ∀ p ∈ ps, f p.1 = g p.1) : wsum f ps = wsum g ps := by
  induction ps with
  | nil => rfl
  | cons p ps ih => rw [wsum_cons, wsum_cons, h p (by simp), ih (fun q hq => h q (by simp [hq]))]
theorem wsum_le {f g : ByteArray → Int} {ps : List Pl} (h : ∀ p ∈ ps, f p.1 ≤ g p.1) (hp : ∀ p ∈ ps, 1 ≤ p.2) : wsum f ps ≤ wsum g ps := by
  induction ps with
  | nil => exact Int.le_refl _
  | cons p ps ih =>
    rw [wsum_cons, wsum_cons]
    have h1 := Int.mul_le_mul_of_nonneg_right (h p (by simp)) (show 0 ≤ p.2 by have := hp p (by simp); omega)
    have h2 := ih (fun q hq => h q (by simp [hq])) (fun q hq => hp q (by simp [hq]))
    omega
theorem wsum_zero (ps : List Pl) : wsum (fun _ => 0) ps = 0 := by
  induction ps with
  | nil => rfl
  | cons p ps ih => rw [wsum_cons, ih, Int.zero_mul, Int.zero_add]
theorem wsum_one (ps : List Pl) : wsum (fun _ => 1) ps = sumL ps := by
  induction ps with
  | nil => rfl
  | cons p ps ih => rw [wsum_cons, ih, Int.one_mul, sumL_cons]
theorem wsum_nonneg {f : ByteArray → Int} {ps : List Pl} (h : ∀ p ∈ ps, 0 ≤ f p.1) (hp : ∀ p ∈ ps, 1 ≤ p.2) : 0 ≤ wsum f ps := by
  have := wsum_le (f := fun _ => 0) h hp
  rwa [wsum_zero] at this
theorem wsum_most {f : ByteArray → Int} {ps : List Pl} (h : ∀ p ∈ ps, f p.1 ≤ 1) (hp : ∀ p ∈ ps, 1 ≤ p.2) : wsum f ps ≤ sumL ps := by
  have := wsum_le (g := fun _ => 1) h hp
  rwa [wsum_one] at this
theorem wsum_add (f g : ByteArray → Int) (ps : List Pl) : wsum (fun t => f t + g t) ps = wsum f ps + wsum g ps := by
  induction ps with
  | nil => rfl
  | cons p ps ih => rw [wsum_cons, wsum_cons, wsum_cons, ih, Int.add_mul]; omega

/-- The sum of some numbers. -/
def totI (l : List Int) : Int := l.foldr (· + ·) 0
theorem totI_nil : totI [] = 0 := rfl
theorem totI_cons (z : Int) (l : List Int) : totI (z :: l) = z + totI l := rfl
theorem totI_app (a b : List Int) : totI (a ++ b) = totI a + totI b := by
  induction a with
  | nil => rw [List.nil_append, totI_nil, Int.zero_add]
  | cons z a ih => rw [List.cons_append, totI_cons, totI_cons, ih, Int.add_assoc]
theorem totI_snoc (a : List Int) (z : Int) : totI (a ++ [z]) = totI a + z := by rw [totI_app, totI_cons, totI_nil, Int.add_zero]
/-- Sums over candidates and over ballots are exchanged. -/
theorem totI_wsum (F : Nat → ByteArray → Int) (n : Nat) (ps : List Pl) : totI ((List.range n).map fun k => wsum (F k) ps) = wsum (fun t => totI ((List.range n).map fun k => F k t)) ps := by
  induction n with
  | zero => simp only [List.range_zero, List.map_nil, totI_nil]; exact (wsum_zero ps).symm
  | succ n ih =>
    simp only [List.range_succ, List.map_append, List.map_cons, List.map_nil, totI_snoc]
    rw [ih, ← wsum_add]
theorem totI_le {a b : List Int} (hl : a.length = b.length) (h : ∀ i, i < a.length → a[i]?.getD 0 ≤ b[i]?.getD 0) : totI a ≤ totI b := by
  induction a generalizing b with
  | nil => cases b with
    | nil => exact Int.le_refl _
    | cons _ _ => simp at hl
  | cons x a ih => cases b with
    | nil => simp at hl
    | cons y b =>
      have h0 := h 0 (by simp)
      have ih := ih (b := b) (by simpa using hl) (fun i hi => by have := h (i + 1) (by simp [hi]); simpa using this)
      simp only [totI_cons]
      simp at h0
      omega
/-- One number of n is 1, the others are 0: or all are 0. -/
theorem totI_one (n : Nat) (z : Int) : totI ((List.range n).map fun (k : Nat) => if z = (k : Int) then (1 : Int) else 0) = if 0 ≤ z ∧ z < (n : Int) then 1 else 0 := by
  induction n with
  | zero =>
    rw [if_neg (by omega)]; rfl
  | succ n ih =>
    simp only [List.range_succ, List.map_append, List.map_cons, List.map_nil, totI_snoc]
    rw [ih]
    by_cases h1 : z = (n : Int)
    · rw [if_neg (by omega), if_pos h1, if_pos (by omega)]; rfl
    · rw [if_neg h1]
      by_cases h2 : 0 ≤ z ∧ z < (n : Int)
      · rw [if_pos h2, if_pos (by omega)]; rfl
      · rw [if_neg h2, if_neg (by omega)]; rfl

end Go.Proofs.Ytafnmongglhlaaa

namespace Go.Proofs.Ytafnmongglhlaaa

/-- The divisor of a party with g seats. -/
def divI (m g : Int) : Int := m * g + 1
theorem divI_pos {m g : Int} (hm : 0 ≤ m) (hg : 0 ≤ g) : 0 < divI m g := by
  have := Int.mul_nonneg hm hg
  unfold divI; omega
theorem divI_le {m g h : Int} (hm : 0 ≤ m) (hg : g ≤ h) : divI m g ≤ divI m h := by
  have := Int.mul_le_mul_of_nonneg_left hg hm
  unfold divI; omega
theorem divI_lt {m g h : Int} (hm : 0 < m) (hg : g < h) : divI m g < divI m h := by
  have := Int.mul_lt_mul_of_pos_left hg hm
  unfold divI; omega
theorem cross_lt {va vb vk da db dk : Int} (hda : 0 < da) (hdb : 0 < db) (hdk : 0 < dk) (h1 : va * db ≤ vb * da) (h2 : vb * dk < vk * db) : va * dk < vk * da := by
  have e1 : va * db * dk ≤ vb * da * dk := Int.mul_le_mul_of_nonneg_right h1 (Int.le_of_lt hdk)
  have e2 : vb * dk * da < vk * db * da := Int.mul_lt_mul_of_pos_right h2 hda
  have e3 : va * dk * db < vk * da * db := by
    rw [Int.mul_right_comm va, Int.mul_right_comm vk]
    rw [Int.mul_right_comm vb] at e1
    omega
  exact Int.lt_of_mul_lt_mul_right e3 (Int.le_of_lt hdb)

/-- The party with the greatest quotient: of several ones the first one in the lots. -/
def nextF (V G : Int → Int) (m : Int) : Int → List Int → Int
  | best, [] => best
  | best, k :: t => nextF V G m (if V best * divI m (G k) < V k * divI m (G best) then k else best) t
def nextL (V G : Int → Int) (m : Int) (lots : List Int) : Int := nextF V G m (lots[0]?.getD 0) (lots.drop 1)
/-- No party has a greater quotient, and no earlier one as great a one. -/
def Beats (V G : Int → Int) (m : Int) (lots : List Int) (w i : Int) : Prop := V i * divI m (G w) ≤ V w * divI m (G i) ∧ (V i * divI m (G w) = V w * divI m (G i) → lots.idxOf w ≤ lots.idxOf i)
theorem beats_self (V G : Int → Int) (m : Int) (lots : List Int) (w : Int) : Beats V G m lots w w := ⟨Int.le_refl _, fun _ => Nat.le_refl _⟩
theorem idx_pre {pre t : List Int} {k i : Int} (hn : (pre ++ k :: t).Nodup) (hi : i ∈ pre) : (pre ++ k :: t).idxOf i < (pre ++ k :: t).idxOf k := by
  have hk : k ∉ pre := fun h => by
    rw [List.nodup_append] at hn
    exact hn.2.2 k h k (by simp) rfl
  rw [List.idxOf_append, if_pos hi, List.idxOf_append, if_neg hk]
  have := List.idxOf_lt_length_of_mem hi
  simp
  omega
theorem nextF_spec {V G : Int → Int} {m : Int} (hm : 0 ≤ m) (hG : ∀ z, 0 ≤ G z) : ∀ (t pre : List Int) (best : Int), (pre ++ t).Nodup → best ∈ pre → (∀ i ∈ pre, Beats V G m (pre ++ t) best i) →
    nextF V G m best t ∈ pre ++ t ∧ ∀ i ∈ pre ++ t, Beats V G m (pre ++ t) (nextF V G m best t) i
  | [], pre, best, _, hb, h => by rw [List.append_nil] at *; exact ⟨hb, h⟩
  | k :: t, pre, best, hn, hb, h => by
    have e : pre ++ k :: t = (pre ++ [k]) ++ t := by simp
    have hix : ∀ i ∈ pre, (pre ++ k :: t).idxOf i < (pre ++ k :: t).idxOf k := fun i hi => idx_pre hn hi
    unfold nextF
    by_cases hlt : V best * divI m (G k) < V k * divI m (G best)
    · rw [if_pos hlt]
      have := nextF_spec hm hG t (pre ++ [k]) k (by rw [← e]; exact hn) (by simp) (fun i hi => by
        rw [← e]
        rcases List.mem_append.1 hi with hi | hi
        · have hs := cross_lt (divI_pos hm (hG i)) (divI_pos hm (hG best)) (divI_pos hm (hG k)) (h i hi).1 hlt
          exact ⟨Int.le_of_lt hs, fun e2 => by omega⟩
        · have : i = k := by simpa using hi
          subst this; exact beats_self _ _ _ _ _)
      rwa [← e] at this
    · rw [if_neg hlt]
      have := nextF_spec hm hG t (pre ++ [k]) best (by rw [← e]; exact hn) (by simp [hb]) (fun i hi => by
        rw [← e]
        rcases List.mem_append.1 hi with hi | hi
        · exact h i hi
        · have : i = k := by simpa using hi
          subst this
          exact ⟨by omega, fun _ => Nat.le_of_lt (hix best hb)⟩)
      rwa [← e] at this
/-- **The next seat goes to the greatest quotient** (promise 87). -/
theorem next_spec {V G : Int → Int} {m : Int} {lots : List Int} (hm : 0 ≤ m) (hG : ∀ z, 0 ≤ G z) (hn : lots.Nodup) (h0 : lots ≠ []) : nextL V G m lots ∈ lots ∧ ∀ i ∈ lots, Beats V G m lots (nextL V G m lots) i := by
  match lots, h0 with
  | b :: t, _ =>
    have := nextF_spec (V := V) hm hG t [b] b hn (by simp) (fun i hi => by
      have : i = b := by simpa using hi
      subst this; exact beats_self _ _ _ _ _)
    simpa [nextL] using this

/-- The check: no seat would rather be another party's. -/
def Chk (V G : Int → Int) (m : Int) (lots : List Int) : Prop := ∀ i ∈ lots, ∀ k ∈ lots, 0 < G i → V k * divI m (G i - 1) ≤ V i * divI m (G k)
/-- One seat more. -/
def plus (G : Int → Int) (k : Int) : Int → Int := fun z => if z = k then G z + 1 else G z
theorem plus_at (G : Int → Int) (k : Int) : plus G k k = G k + 1 := by simp [plus]
theorem plus_not {G : Int → Int} {k z : Int} (h : z ≠ k) : plus G k z = G z := by simp [plus, h]
theorem plus_ge (G : Int → Int) (k z : Int) : G z ≤ plus G k z := by unfold plus; split <;> omega
/-- **The next seat keeps the check** (promise 88). -/
theorem chk_next {V G : Int → Int} {m : Int} {lots : List Int} (hm : 0 ≤ m) (hG : ∀ z, 0 ≤ G z) (hV : ∀ z, 0 ≤ V z) (hn : lots.Nodup) (h0 : lots ≠ []) (h : Chk V G m lots) : Chk V (plus G (nextL V G m lots)) m lots := by
  obtain ⟨_, hw⟩ := next_spec (V := V) hm hG hn h0
  obtain ⟨w, hwe⟩ : ∃ w, nextL V G m lots = w := ⟨_, rfl⟩
  rw [hwe] at hw ⊢
  intro i hi k hk hpos
  have hup : V i * divI m (G k) ≤ V i * divI m (plus G w k) := Int.mul_le_mul_of_nonneg_left (divI_le hm (plus_ge G w k)) (hV i)
  by_cases e : i = w
  · subst e
    rw [plus_at, Int.add_sub_cancel]
    have := (hw k hk).1
    omega
  · rw [plus_not e] at hpos ⊢
    have := h i hi k hk hpos
    omega

/-- The seats behind n rounds. -/
def seatF (V : Int → Int) (m : Int) (lots : List Int) : Nat → Int → Int
  | 0 => fun _ => 0
  | n + 1 => plus (seatF V m lots n) (nextL V (seatF V m lots n) m lots)
theorem seatF_succ (V : Int → Int) (m : Int) (lots : List Int) (n : Nat) : seatF V m lots (n + 1) = plus (seatF V m lots n) (nextL V (seatF V m lots n) m lots) := rfl
theorem seatF_nonneg (V : Int → Int) (m : Int) (lots : List Int) : ∀ n z, 0 ≤ seatF V m lots n z
  | 0, _ => Int.le_refl _
  | n + 1, z => by
    have := seatF_nonneg V m lots n z
    have := plus_ge (seatF V m lots n) (nextL V (seatF V m lots n) m lots) z
    rw [seatF_succ]; omega
theorem seatF_chk {V : Int → Int} {m : Int} {lots : List Int} (hm : 0 ≤ m) (hV : ∀ z, 0 ≤ V z) (hn : lots.Nodup) (h0 : lots ≠ []) : ∀ n, Chk V (seatF V m lots n) m lots
  | 0 => fun i _ k _ h => by have : (0 : Int) < 0 := h; omega
  | n + 1 => chk_next hm (seatF_nonneg V m lots n) hV hn h0 (seatF_chk hm hV hn h0 n)
theorem tot_plus : ∀ {l : List Int} (G : Int → Int) {k : Int}, l.Nodup → k ∈ l → totI (l.map (plus G k)) = totI (l.map G) + 1
  | [], _, _, _, h => by cases h
  | a :: t, G, k, hn, h => by
    rw [List.nodup_cons] at hn
    rw [List.map_cons, List.map_cons, totI_cons, totI_cons]
    by_cases e : a = k
    · subst e
      have : t.map (plus G a) = t.map G := List.map_congr_left (fun z hz => plus_not (fun e => hn.1 (e ▸ hz)))
      rw [this, plus_at]; omega
    · have hk : k ∈ t := by
        rcases List.mem_cons.1 h with g | g
        · exact absurd g.symm e
        · exact g
      rw [plus_not e, tot_plus G hn.2 hk]; omega
/-- **All seats are given** (promise 82). -/
theorem seatF_tot {V : Int → Int} {m : Int} {lots : List Int} (hm : 0 ≤ m) (hn : lots.Nodup) (h0 : lots ≠ []) : ∀ n : Nat, totI (lots.map (seatF V m lots n)) = (n : Int)
  | 0 => by
    have : ∀ l : List Int, totI (l.map (seatF V m lots 0)) = 0 := fun l => by
      induction l with
      | nil => rfl
      | cons a t ih => rw [List.map_cons, totI_cons, ih]; rfl
    exact this lots
  | n + 1 => by
    rw [seatF_succ, tot_plus _ hn (next_spec hm (seatF_nonneg V m lots n) hn h0).1, seatF_tot hm hn h0 n]; omega
/-- **No seats without votes** (promise 82). -/
theorem seatF_none {V : Int → Int} {m : Int} {lots : List Int} (hm : 0 ≤ m) (hV : ∀ z, 0 ≤ V z) (hn : lots.Nodup) (hp : ∃ k ∈ lots, 0 < V k) {i : Int} (hi : V i = 0) : ∀ n, seatF V m lots n i = 0
  | 0 => rfl
  | n + 1 => by
    obtain ⟨k, hk, hkv⟩ := hp
    have h0 : lots ≠ [] := fun e => by rw [e] at hk; cases hk
    obtain ⟨_, hw⟩ := next_spec (V := V) hm (seatF_nonneg V m lots n) hn h0
    have hb := (hw k hk).1
    have ih := seatF_none hm hV hn ⟨k, hk, hkv⟩ hi n
    have hne : i ≠ nextL V (seatF V m lots n) m lots := fun e => by
      rw [← e, hi, Int.zero_mul] at hb
      have := Int.mul_pos hkv (divI_pos hm (seatF_nonneg V m lots n i))
      omega
    rw [seatF_succ, plus_not hne, ih]
/-- What the check says of two parties. -/
theorem chk_order {V G : Int → Int} {m : Int} {lots : List Int} (hm : 0 ≤ m) (hG : ∀ z, 0 ≤ G z) (hV : ∀ z, 0 ≤ V z) (h : Chk V G m lots) {i k : Int} (hi : i ∈ lots) (hk : k ∈ lots) (hv : V k < V i) : G k ≤ G i := by
  rcases Int.lt_or_le (G i) (G k) with hlt | hle
  · exfalso
    have h1 := h k hk i hi (by have := hG i; omega)
    have h2 : V i * divI m (G i) ≤ V i * divI m (G k - 1) := Int.mul_le_mul_of_nonneg_left (divI_le hm (by omega)) (hV i)
    have h3 : V k * divI m (G i) < V i * divI m (G i) := Int.mul_lt_mul_of_pos_right hv (divI_pos hm (hG i))
    omega
  · exact hle
theorem chk_near {V G : Int → Int} {m : Int} {lots : List Int} (hm : 0 < m) (hG : ∀ z, 0 ≤ G z) (h : Chk V G m lots) {i k : Int} (hi : i ∈ lots) (hk : k ∈ lots) (hv : V k = V i) (hp : 0 < V i) : G i ≤ G k + 1 := by
  rcases Int.lt_or_le (G k + 1) (G i) with hlt | hle
  · exfalso
    have h1 := h i hi k hk (by have := hG k; omega)
    rw [hv] at h1
    have h3 : V i * divI m (G k) < V i * divI m (G i - 1) := Int.mul_lt_mul_of_pos_left (divI_lt hm (by omega)) hp
    omega
  · exact hle
/-- **Of two with equal votes the one with the earlier lot has as many or one more** (promise 84). -/
theorem seatF_early {V : Int → Int} {m : Int} {lots : List Int} (hm : 0 < m) (hn : lots.Nodup) {i k : Int} (hi : i ∈ lots) (_hk : k ∈ lots) (hv : V k = V i) (hp : 0 < V i) (hix : lots.idxOf i < lots.idxOf k) : ∀ n, seatF V m lots n k ≤ seatF V m lots n i
  | 0 => Int.le_refl _
  | n + 1 => by
    have h0 : lots ≠ [] := fun e => by rw [e] at hi; cases hi
    have ih := seatF_early hm hn hi _hk hv hp hix n
    have hG := seatF_nonneg V m lots n
    obtain ⟨_, hw⟩ := next_spec (V := V) (Int.le_of_lt hm) hG hn h0
    rw [seatF_succ]
    obtain ⟨w, hwe⟩ : ∃ w, nextL V (seatF V m lots n) m lots = w := ⟨_, rfl⟩
    rw [hwe] at hw ⊢
    by_cases e : k = w
    · subst e
      have hne : i ≠ k := fun e => by subst e; omega
      rw [plus_at, plus_not hne]
      rcases Int.lt_or_le (seatF V m lots n k) (seatF V m lots n i) with hlt | hle
      · omega
      · exfalso
        have he : seatF V m lots n k = seatF V m lots n i := by omega
        have hb := hw i hi
        have := hb.2 (by rw [hv, he])
        omega
    · rw [plus_not e]
      have := plus_ge (seatF V m lots n) w i
      omega
/-- **Only shares count** (promise 85). -/
theorem nextF_scale (V G : Int → Int) (m : Int) : ∀ (t : List Int) (b : Int), nextF (fun z => 2 * V z) G m b t = nextF V G m b t
  | [], _ => rfl
  | k :: t, b => by
    unfold nextF
    have e : (2 * V b * divI m (G k) < 2 * V k * divI m (G b)) ↔ (V b * divI m (G k) < V k * divI m (G b)) := by
      rw [Int.mul_assoc, Int.mul_assoc]; omega
    simp only [e]
    rw [nextF_scale V G m t]
theorem seatF_scale (V : Int → Int) (m : Int) (lots : List Int) : ∀ n, seatF (fun z => 2 * V z) m lots n = seatF V m lots n
  | 0 => rfl
  | n + 1 => by
    rw [seatF_succ, seatF_succ, seatF_scale V m lots n]
    congr 1
    exact nextF_scale V _ m _ _
/-- **Divisors by whole numbers keep whole parts** (promise 86). -/
theorem tot_cross : ∀ (l : List Int) (V G : Int → Int) (a b : Int), (∀ k ∈ l, a * G k ≤ V k * b) → a * totI (l.map G) ≤ totI (l.map V) * b
  | [], _, _, a, b, _ => by simp [totI_nil]
  | k :: t, V, G, a, b, h => by
    have h1 := h k (by simp)
    have h2 := tot_cross t V G a b (fun z hz => h z (by simp [hz]))
    rw [List.map_cons, List.map_cons, totI_cons, totI_cons, Int.mul_add, Int.add_mul]; omega
theorem tot_cross_lt : ∀ (l : List Int) (V G : Int → Int) (a b : Int), (∀ k ∈ l, a * G k ≤ V k * b) → (∃ k ∈ l, a * G k < V k * b) → a * totI (l.map G) < totI (l.map V) * b
  | [], _, _, _, _, _, h => by obtain ⟨k, hk, _⟩ := h; cases hk
  | k :: t, V, G, a, b, h, hx => by
    rw [List.map_cons, List.map_cons, totI_cons, totI_cons, Int.mul_add, Int.add_mul]
    have h1 := h k (by simp)
    have ht : ∀ z ∈ t, a * G z ≤ V z * b := fun z hz => h z (by simp [hz])
    have h2 := tot_cross t V G a b ht
    obtain ⟨z, hz, hlt⟩ := hx
    rcases List.mem_cons.1 hz with e | e
    · subst e; omega
    · have := tot_cross_lt t V G a b ht ⟨z, e, hlt⟩
      omega
theorem chk_floor {V G : Int → Int} {lots : List Int} (hG : ∀ z, 0 ≤ G z) (hV : ∀ z, 0 ≤ V z) (h : Chk V G 1 lots) {i : Int} (hi : i ∈ lots) (hp : 0 < totI (lots.map V)) : V i * totI (lots.map G) < (G i + 1) * totI (lots.map V) := by
  rw [Int.mul_comm (G i + 1)]
  have hall : ∀ k ∈ lots, V i * G k ≤ V k * (G i + 1) := fun k hk => by
    rcases Int.lt_or_le 0 (G k) with h0 | h0
    · have := h k hk i hi h0
      have e1 : divI 1 (G k - 1) = G k := by unfold divI; omega
      have e2 : divI 1 (G i) = G i + 1 := by unfold divI; omega
      rw [e1, e2] at this
      exact this
    · have e0 : G k = 0 := by have := hG k; omega
      rw [e0, Int.mul_zero]
      exact Int.mul_nonneg (hV k) (by have := hG i; omega)
  rcases Int.lt_or_le 0 (V i) with h0 | h0
  · refine tot_cross_lt lots V G (V i) (G i + 1) hall ⟨i, hi, ?_⟩
    rw [Int.mul_add, Int.mul_one]; omega
  · have e0 : V i = 0 := by have := hV i; omega
    rw [e0, Int.zero_mul]
    exact Int.mul_pos hp (by have := hG i; omega)
/-- **A seat that is moved is noticed, or equal** (promise 89). -/
def move (G : Int → Int) (i k : Int) : Int → Int := fun z => if z = i then G z - 1 else if z = k then G z + 1 else G z
theorem chk_move {V G : Int → Int} {m : Int} {lots : List Int} (hG : ∀ z, 0 ≤ G z) (h : Chk V G m lots) {i k : Int} (hi : i ∈ lots) (hk : k ∈ lots) (hik : i ≠ k) (hp : 0 < G i) (h2 : Chk V (move G i k) m lots) : V i * divI m (G k) = V k * divI m (G i - 1) := by
  have e1 : move G i k i = G i - 1 := by simp [move]
  have e2 : move G i k k = G k + 1 := by simp [move, Ne.symm hik]
  have a := h i hi k hk hp
  have b := h2 k hk i hi (by rw [e2]; have := hG k; omega)
  rw [e1, e2, Int.add_sub_cancel] at b
  omega

end Go.Proofs.Ytafnmongglhlaaa
