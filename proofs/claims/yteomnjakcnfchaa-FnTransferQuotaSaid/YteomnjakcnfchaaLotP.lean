/-
  Lots, as lists: what they are, how a seed draws them, the first of some, the seal. Of no memory.
-/
import Derived.Test.YteomnjakcnfchaaOfL
namespace Go.Proofs.Yteomnjakcnfchaa

/-- Lots are valid. -/
def lotsB (zs : List Int) : Bool := validB zs (zs.length : Int)
theorem lotsB_len {zs : List Int} (h : lotsB zs = true) : 1 ≤ zs.length ∧ zs.length ≤ 5 := by have := vB_mem h; omega
theorem lotsB_perm {zs ys : List Int} (h : lotsB zs = true) (hp : ys.Perm zs) : lotsB ys = true := by
  have hm := vB_mem h
  have hd := vB_nodup h
  unfold lotsB
  rw [hp.length_eq]
  exact vB_of hm.1 hm.2.1 (hp.nodup_iff.2 hd) (fun z hz => hm.2.2 z (hp.mem_iff.1 hz))

/-- The lots that a seed draws out of a list; 'f' bounds the draws. -/
def lotL : Nat → List Int → Nat → List Int
  | 0, _, _ => []
  | f + 1, rest, seed => if rest.length = 0 then [] else rest[seed % rest.length]?.getD 0 :: lotL f (rest.eraseIdx (seed % rest.length)) (seed / rest.length)
theorem lotL_nil (f seed : Nat) : lotL f [] seed = [] := by cases f <;> rfl
theorem lotL_step (f : Nat) (rest : List Int) (seed : Nat) (h : rest.length ≠ 0) : lotL (f + 1) rest seed = rest[seed % rest.length]?.getD 0 :: lotL f (rest.eraseIdx (seed % rest.length)) (seed / rest.length) := by rw [lotL, if_neg h]
theorem lotL_length : ∀ (f : Nat) (rest : List Int) (seed : Nat), rest.length ≤ f → (lotL f rest seed).length = rest.length
  | 0, rest, seed, h => by simp [lotL]; omega
  | f + 1, rest, seed, h => by
    by_cases h0 : rest.length = 0
    · rw [List.length_eq_zero_iff.1 h0, lotL_nil]
    · have hm := Nat.mod_lt seed (show 0 < rest.length by omega)
      have he : (rest.eraseIdx (seed % rest.length)).length = rest.length - 1 := by rw [List.length_eraseIdx, if_pos hm]
      rw [lotL_step f rest seed h0, List.length_cons, lotL_length f _ _ (by omega), he]; omega
theorem erase_perm : ∀ (l : List Int) (i : Nat) (h : i < l.length), (l[i] :: l.eraseIdx i).Perm l
  | [], i, h => by simp at h
  | a :: t, 0, _ => by simp
  | a :: t, i + 1, h => by
    have ih := erase_perm t i (by simpa using h)
    simp only [List.getElem_cons_succ, List.eraseIdx_cons_succ]
    exact (List.Perm.swap a _ _).trans (List.Perm.cons a ih)
theorem lotL_perm : ∀ (f : Nat) (rest : List Int) (seed : Nat), rest.length ≤ f → (lotL f rest seed).Perm rest
  | 0, rest, seed, h => by rw [List.length_eq_zero_iff.1 (show rest.length = 0 by omega)]; exact List.Perm.refl _
  | f + 1, rest, seed, h => by
    by_cases h0 : rest.length = 0
    · rw [List.length_eq_zero_iff.1 h0, lotL_nil]
    · have hm := Nat.mod_lt seed (show 0 < rest.length by omega)
      have he : (rest.eraseIdx (seed % rest.length)).length = rest.length - 1 := by rw [List.length_eraseIdx, if_pos hm]
      rw [lotL_step f rest seed h0]
      have h1 := lotL_perm f (rest.eraseIdx (seed % rest.length)) (seed / rest.length) (by omega)
      have e : rest[seed % rest.length]?.getD 0 = rest[seed % rest.length] := by simp [hm]
      rw [e]
      exact (List.Perm.cons _ h1).trans (erase_perm _ _ hm)

/-- The factorial. -/
def factN : Nat → Nat
  | 0 => 1
  | n + 1 => (n + 1) * factN n
/-- **Seeds repeat.** -/
theorem lotL_more : ∀ (f : Nat) (rest : List Int) (seed : Nat), rest.length ≤ f → lotL f rest (seed + factN rest.length) = lotL f rest seed
  | 0, rest, seed, h => rfl
  | f + 1, rest, seed, h => by
    by_cases h0 : rest.length = 0
    · rw [List.length_eq_zero_iff.1 h0, lotL_nil, lotL_nil]
    · obtain ⟨n, hn⟩ : ∃ n, rest.length = n + 1 := ⟨rest.length - 1, by omega⟩
      have hm := Nat.mod_lt seed (show 0 < rest.length by omega)
      have he : (rest.eraseIdx (seed % rest.length)).length = n := by rw [List.length_eraseIdx, if_pos hm]; omega
      have e1 : (seed + factN rest.length) % rest.length = seed % rest.length := by rw [hn, factN, Nat.add_mul_mod_self_left]
      have e2 : (seed + factN rest.length) / rest.length = seed / rest.length + factN n := by rw [hn, factN, Nat.add_mul_div_left _ _ (by omega)]
      rw [lotL_step f rest _ h0, lotL_step f rest _ h0, e1, e2]
      have := lotL_more f (rest.eraseIdx (seed % rest.length)) (seed / rest.length) (by omega)
      rw [he] at this
      rw [this]
/-- All candidates in ascending order. -/
def fromZero (n : Nat) : List Int := (List.range n).map fun (i : Nat) => (i : Int)
theorem fromZero_length (n : Nat) : (fromZero n).length = n := by simp [fromZero]
theorem fromZero_succ (n : Nat) : fromZero (n + 1) = fromZero n ++ [(n : Int)] := by simp [fromZero, List.range_succ]
theorem fromZero_lots {n : Nat} (h1 : 1 ≤ n) (h5 : n ≤ 5) : lotsB (fromZero n) = true := by
  unfold lotsB
  rw [fromZero_length]
  refine vB_of (by omega) (by omega) ?_ (fun z hz => ?_)
  · unfold fromZero List.Nodup
    rw [List.pairwise_map]
    exact List.Pairwise.imp (fun {a b} hab e => hab (by omega)) List.nodup_range
  · obtain ⟨i, hi, rfl⟩ := List.mem_map.1 hz
    have := List.mem_range.1 hi
    omega
/-- What LotsOf returns for n candidates. -/
def lotsOf (n seed : Nat) : List Int := lotL n (fromZero n) seed
theorem lotsOf_valid {n seed : Nat} (h1 : 1 ≤ n) (h5 : n ≤ 5) : lotsB (lotsOf n seed) = true := lotsB_perm (fromZero_lots h1 h5) (lotL_perm n _ seed (by rw [fromZero_length]; exact Nat.le_refl _))
theorem lotsOf_length (n seed : Nat) : (lotsOf n seed).length = n := by rw [lotsOf, lotL_length _ _ _ (by rw [fromZero_length]; exact Nat.le_refl _), fromZero_length]
theorem lotsOf_more (n seed : Nat) : lotsOf n (seed + factN n) = lotsOf n seed := by
  have := lotL_more n (fromZero n) seed (by rw [fromZero_length]; exact Nat.le_refl _)
  rwa [fromZero_length] at this
theorem lotsOf_mod (n seed : Nat) : lotsOf n seed = lotsOf n (seed % factN n) := by
  have h : ∀ q, lotsOf n (seed % factN n + q * factN n) = lotsOf n (seed % factN n) := fun q => by
    induction q with
    | zero => simp
    | succ q ih => rw [Nat.succ_mul, ← Nat.add_assoc, lotsOf_more, ih]
  have := h (seed / factN n)
  rwa [Nat.mul_comm, Nat.mod_add_div] at this
theorem lotsOf_head {n seed : Nat} (h1 : 1 ≤ n) : (lotsOf n seed)[0]?.getD 0 = ((seed % n : Nat) : Int) := by
  obtain ⟨k, rfl⟩ : ∃ k, n = k + 1 := ⟨n - 1, by omega⟩
  unfold lotsOf
  rw [lotL_step _ _ _ (by rw [fromZero_length]; omega), fromZero_length]
  have hm := Nat.mod_lt seed (show 0 < k + 1 by omega)
  simp [fromZero, hm]
/-- **Each order of two lots has a seed**: for each drawn order, one less than 120 has the first two exchanged. -/
theorem lots_swap_all : ∀ n, n < 6 → 2 ≤ n → ∀ s, s < factN n → ∃ q, q < 120 ∧ lotsOf n q = ((lotsOf n s)[1]?.getD 0) :: ((lotsOf n s)[0]?.getD 0) :: (lotsOf n s).drop 2 := by
  decide +kernel

/-- The first of the lots for whom 'some' is true, or -1. -/
def pickL : List Int → List Bool → Int
  | [], _ => -1
  | z :: t, L => if L[z.toNat]?.getD false = true then z else pickL t L

/-- The seal. -/
def sealV (seed secret : Int) : Int := (seed * 7919 + secret * 104729 + 12345) % 1000003
theorem small_mult {d c k m : Int} (hc : k * c = 1 + 1000003 * m) (hd : -999 ≤ d ∧ d ≤ 999) (h : (1000003 : Int) ∣ d * c) : d = 0 := by
  obtain ⟨q, hq⟩ := h
  have h1 : d = 1000003 * (k * q - m * d) := by
    have h2 : k * (d * c) = k * (1000003 * q) := by rw [hq]
    have h3 : k * (d * c) = d * (k * c) := by rw [← Int.mul_assoc, Int.mul_comm k d, Int.mul_assoc]
    rw [h3, hc, Int.mul_add, Int.mul_one] at h2
    have h4 : d * (1000003 * m) = 1000003 * (m * d) := by rw [Int.mul_left_comm, Int.mul_comm d m]
    have h5 : k * (1000003 * q) = 1000003 * (k * q) := by rw [Int.mul_left_comm]
    rw [h4, h5] at h2
    rw [Int.mul_sub]
    omega
  obtain ⟨r, hr⟩ : ∃ r, k * q - m * d = r := ⟨_, rfl⟩
  rw [hr] at h1
  omega
theorem lin_one (u v z k : Int) : u + z + k - (v + z + k) = u - v := by omega
theorem lin_two (u v z k : Int) : z + u + k - (z + v + k) = u - v := by omega
/-- **A sealed seed cannot be changed.** -/
theorem seal_seed {a b c : Int} (ha : 0 ≤ a ∧ a ≤ 999) (hb : 0 ≤ b ∧ b ≤ 999) (h : a ≠ b) : sealV a c ≠ sealV b c := by
  intro e
  have h1 := Int.dvd_of_emod_eq_zero (Int.emod_eq_emod_iff_emod_sub_eq_zero.1 e)
  have e2 := lin_one (a * 7919) (b * 7919) (c * 104729) 12345
  have e3 := e2.trans (Int.sub_mul a b 7919).symm
  have h2 : (1000003 : Int) ∣ (a - b) * 7919 := e3 ▸ h1
  clear e e2 e3 h1
  exact h (Int.sub_eq_zero.1 (small_mult (k := 658671) (m := 5216) (by decide) (by clear h2; omega) h2))
theorem seal_secret {a b c : Int} (ha : 0 ≤ a ∧ a ≤ 999) (hb : 0 ≤ b ∧ b ≤ 999) (h : a ≠ b) : sealV c a ≠ sealV c b := by
  intro e
  have h1 := Int.dvd_of_emod_eq_zero (Int.emod_eq_emod_iff_emod_sub_eq_zero.1 e)
  have e2 := lin_two (a * 104729) (b * 104729) (c * 7919) 12345
  have e3 := e2.trans (Int.sub_mul a b 104729).symm
  have h2 : (1000003 : Int) ∣ (a - b) * 104729 := e3 ▸ h1
  clear e e2 e3 h1
  exact h (Int.sub_eq_zero.1 (small_mult (k := 404531) (m := 42366) (by decide) (by clear h2; omega) h2))

end Go.Proofs.Yteomnjakcnfchaa
