/-
  Lots, step by step: what a seed draws of those that are left, what is told of arguments out of range, and that a part of lots is none. Of no memory.
-/
import Derived.Test.YteomnjakcnfchaaLotP
namespace Go.Proofs.Yteomnjakcnfchaa

/-- The lots that a seed draws of those that are left. -/
def lotR (rest : List Int) (seed : Nat) : List Int := lotL rest.length rest seed
theorem lotR_nil (seed : Nat) : lotR [] seed = [] := rfl
theorem lotR_step {rest : List Int} {m : Nat} (hm : rest.length = m) (h : m ≠ 0) (seed : Nat) : lotR rest seed = rest[seed % m]?.getD 0 :: lotR (rest.eraseIdx (seed % m)) (seed / m) := by
  subst hm
  obtain ⟨n, hn⟩ : ∃ n, rest.length = n + 1 := ⟨rest.length - 1, by omega⟩
  have hk := Nat.mod_lt seed (show 0 < rest.length by omega)
  have he : (rest.eraseIdx (seed % rest.length)).length = n := by rw [List.length_eraseIdx, if_pos hk]; omega
  unfold lotR
  rw [he]
  conv => lhs; rw [hn]
  rw [lotL_step n rest seed h]
theorem lotR_all (n seed : Nat) : lotR (fromZero n) seed = lotsOf n seed := by unfold lotR lotsOf; rw [fromZero_length]
theorem erase_length {rest : List Int} {m k : Nat} (hm : rest.length = m) (h : k < m) : (rest.eraseIdx k).length = m - 1 := by rw [List.length_eraseIdx, hm, if_pos h]

/-- The number of candidates and the seed are in range. -/
def okLots (n seed : Int) : Bool := inB n 1 5 && inB seed 0 999
/-- What LotsOf returns. -/
def lotsI (n seed : Int) : List Int := if okLots n seed = true then lotsOf n.toNat seed.toNat else []
theorem okLots_of {n seed : Int} (h : okLots n seed = true) : (1 ≤ n ∧ n ≤ 5) ∧ 0 ≤ seed ∧ seed ≤ 999 := by simpa [okLots, inB] using h
theorem okLots_yes {n seed : Int} (h1 : 1 ≤ n) (h2 : n ≤ 5) (h3 : 0 ≤ seed) (h4 : seed ≤ 999) : okLots n seed = true := by simp [okLots, inB]; omega
theorem okLots_no {n seed : Int} (h : n < 1 ∨ 5 < n ∨ seed < 0 ∨ 999 < seed) : okLots n seed = false := by
  cases hk : okLots n seed
  · rfl
  · have := okLots_of hk; omega
theorem lotsI_yes {n seed : Int} (h : okLots n seed = true) : lotsI n seed = lotsOf n.toNat seed.toNat := by rw [lotsI, if_pos h]
theorem lotsI_no {n seed : Int} (h : okLots n seed = false) : lotsI n seed = [] := by rw [lotsI, h]; rfl
theorem lotsI_short (n seed : Int) : (lotsI n seed).length ≤ 5 := by
  cases h : okLots n seed
  · rw [lotsI_no h]; simp
  · have := okLots_of h
    rw [lotsI_yes h, lotsOf_length]; omega
theorem lotsI_length {n seed : Int} (h : okLots n seed = true) : ((lotsI n seed).length : Int) = n := by
  have := okLots_of h
  rw [lotsI_yes h, lotsOf_length]; omega
theorem lotsI_valid {n seed : Int} (h : okLots n seed = true) : lotsB (lotsI n seed) = true := by
  have := okLots_of h
  rw [lotsI_yes h]; exact lotsOf_valid (by omega) (by omega)
theorem lotsI_head {n seed : Int} (h : okLots n seed = true) : (lotsI n seed)[0]?.getD 0 = seed % n := by
  have := okLots_of h
  rw [lotsI_yes h, lotsOf_head (by omega), Int.natCast_emod, Int.toNat_of_nonneg (by omega), Int.toNat_of_nonneg (by omega)]

/-- The product of 1 to n. -/
def factI (n : Int) : Int := (factN n.toNat : Int)
/-- The product of the numbers up to i (those above 1). -/
theorem fact_small (k : Nat) (h : k ≤ 5) : factN k = [1, 1, 2, 6, 24, 120][k]?.getD 0 := by
  have e : k = 0 ∨ k = 1 ∨ k = 2 ∨ k = 3 ∨ k = 4 ∨ k = 5 := by omega
  rcases e with rfl | rfl | rfl | rfl | rfl | rfl <;> rfl
theorem lotsI_more {n seed : Int} (h : okLots n seed = true) (h2 : okLots n (seed + factI n) = true) : lotsI n (seed + factI n) = lotsI n seed := by
  have := okLots_of h
  rw [lotsI_yes h, lotsI_yes h2, show (seed + factI n).toNat = seed.toNat + factN n.toNat by unfold factI; omega, lotsOf_more]
/-- **Each order of two lots has a seed.** -/
theorem lotsI_swap {n seed : Int} (h : okLots n seed = true) (h2 : 2 ≤ n) : ∃ q : Nat, q < 120 ∧ lotsI n (q : Int) = (lotsI n seed)[1]?.getD 0 :: (lotsI n seed)[0]?.getD 0 :: (lotsI n seed).drop 2 := by
  have hh := okLots_of h
  obtain ⟨m, rfl⟩ := Int.eq_ofNat_of_zero_le (show 0 ≤ n by omega)
  obtain ⟨s, rfl⟩ := Int.eq_ofNat_of_zero_le (show 0 ≤ seed by omega)
  rw [lotsI_yes h, Int.toNat_natCast, Int.toNat_natCast, lotsOf_mod m s]
  have hf : 0 < factN m := by rw [fact_small m (by omega)]; have e : m = 2 ∨ m = 3 ∨ m = 4 ∨ m = 5 := by omega
                              rcases e with rfl | rfl | rfl | rfl <;> decide
  obtain ⟨q, hq, he⟩ := lots_swap_all m (by omega) (by omega) (s % factN m) (Nat.mod_lt _ hf)
  refine ⟨q, hq, ?_⟩
  rw [lotsI_yes (okLots_yes (by omega) (by omega) (by omega) (by omega)), Int.toNat_natCast, Int.toNat_natCast, he]

/-- Lots turned about are lots. -/
theorem lotsB_reverse {zs : List Int} (h : lotsB zs = true) : lotsB zs.reverse = true := lotsB_perm h (List.reverse_perm zs)
/-- **Lots whose last one is exchanged for the first are none.** -/
theorem lotsB_twice {zs : List Int} (h2 : 2 ≤ zs.length) : lotsB (zs.take (zs.length - 1) ++ [zs[0]?.getD 0]) = false := by
  cases hv : lotsB (zs.take (zs.length - 1) ++ [zs[0]?.getD 0])
  · rfl
  · exfalso
    have hn := vB_nodup hv
    rw [List.nodup_append] at hn
    have hm : zs[0]?.getD 0 ∈ zs.take (zs.length - 1) := by
      have h0 : 0 < zs.length := by omega
      have h1 : 0 < (zs.take (zs.length - 1)).length := by simp; omega
      have e : zs[0]?.getD 0 = (zs.take (zs.length - 1))[0] := by simp [h0]
      rw [e]; exact List.getElem_mem h1
    exact hn.2.2 _ hm _ (by simp) rfl

/-- What LotsFirst returns. -/
def pickB (zs : List Int) (L : List Bool) : Int := if lotsB zs = true ∧ L.length = zs.length then pickL zs L else -1
theorem lotsB_mem {zs : List Int} (h : lotsB zs = true) : ∀ z ∈ zs, 0 ≤ z ∧ z < (zs.length : Int) := (vB_mem h).2.2
/-- What LotsSeal returns. -/
def sealB (a b : Int) : Int := if inB a 0 999 = true ∧ inB b 0 999 = true then sealV a b else -1
theorem inB_of {x lo hi : Int} (h : inB x lo hi = true) : lo ≤ x ∧ x ≤ hi := by simpa [inB] using h
theorem inB_yes {x lo hi : Int} (h1 : lo ≤ x) (h2 : x ≤ hi) : inB x lo hi = true := by simp [inB]; omega
theorem inB_no {x lo hi : Int} (h : x < lo ∨ hi < x) : inB x lo hi = false := by simp [inB]; omega
theorem sealB_yes {a b : Int} (ha : 0 ≤ a ∧ a ≤ 999) (hb : 0 ≤ b ∧ b ≤ 999) : sealB a b = sealV a b := by rw [sealB, if_pos ⟨inB_yes ha.1 ha.2, inB_yes hb.1 hb.2⟩]
theorem sealB_no {a b : Int} (h : (a < 0 ∨ 999 < a) ∨ (b < 0 ∨ 999 < b)) : sealB a b = -1 := by
  rw [sealB, if_neg]
  rintro ⟨h1, h2⟩
  have := inB_of h1; have := inB_of h2; omega
theorem sealB_neg {a b : Int} : sealB a b < 0 ↔ ¬ ((0 ≤ a ∧ a ≤ 999) ∧ 0 ≤ b ∧ b ≤ 999) := by
  constructor
  · rintro h ⟨ha, hb⟩
    rw [sealB_yes ha hb, sealV] at h
    have := Int.emod_nonneg (a * 7919 + b * 104729 + 12345) (show (1000003 : Int) ≠ 0 by decide)
    omega
  · intro h
    rw [sealB_no (by omega)]; decide

end Go.Proofs.Yteomnjakcnfchaa
