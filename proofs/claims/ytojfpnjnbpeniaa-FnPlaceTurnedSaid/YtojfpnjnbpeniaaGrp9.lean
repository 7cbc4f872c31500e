/-
  The greatest of some counts that are not negative: as the program finds it, and as the given functions do. Of no memory.
  Parts of a list that lies in memory: what is appended of it. No condition but what each theorem says.
  Lots, step by step: what a seed draws of those that are left, what is told of arguments out of range, and that a part of lots is none. Of no memory.
  spec.DepthCounts and spec.PlaceCounts; spec.l14Over, spec.l11All, spec.l11Most: what they answer, in memory of their own.
  impl.onePoint, and the ways to count: closures that tell what an index is worth. No condition but what each theorem says.
-/
import Derived.Test.YtojfpnjnbpeniaaGrp4
import Derived.Deep.RegionLaw
import Derived.Test.YtojfpnjnbpeniaaGrp7
import Derived.Test.YtojfpnjnbpeniaaGrp2
import Derived.Test.YtojfpnjnbpeniaaGrp8
import Derived.Test.YtojfpnjnbpeniaaGrp5
namespace Go.Proofs.Ytojfpnjnbpeniaa

/-- The greatest of the first k + 1 counts. -/
def maxTo (c : List Int) : Nat → Int
  | 0 => c[0]?.getD 0
  | k + 1 => max (maxTo c k) (c[k + 1]?.getD 0)
theorem maxTo_zero (c : List Int) : maxTo c 0 = c[0]?.getD 0 := rfl
theorem maxTo_succ (c : List Int) (k : Nat) : maxTo c (k + 1) = max (maxTo c k) (c[k + 1]?.getD 0) := rfl
theorem maxTo_ge {c : List Int} : ∀ {k i : Nat}, i ≤ k → c[i]?.getD 0 ≤ maxTo c k
  | 0, i, h => by rw [Nat.le_zero.1 h]; exact Int.le_refl _
  | k + 1, i, h => by
    rw [maxTo_succ]
    by_cases e : i = k + 1
    · subst e; exact Int.le_max_right _ _
    · exact Int.le_trans (maxTo_ge (by omega : i ≤ k)) (Int.le_max_left _ _)
theorem maxTo_hit (c : List Int) : ∀ k, ∃ i, i ≤ k ∧ c[i]?.getD 0 = maxTo c k
  | 0 => ⟨0, Nat.le_refl _, rfl⟩
  | k + 1 => by
    obtain ⟨i, hi, he⟩ := maxTo_hit c k
    rw [maxTo_succ]
    by_cases g : c[k + 1]?.getD 0 ≤ maxTo c k
    · exact ⟨i, by omega, by omega⟩
    · exact ⟨k + 1, Nat.le_refl _, by omega⟩
theorem best_all {c : List Int} {n : Nat} (h0 : ∀ i, i < n → 0 ≤ c[i]?.getD 0) : ∀ k, k < n → bestS c (allL n) (k + 1) = maxTo c k
  | 0, h => by
    have := h0 0 h
    rw [bestS_succ, bestS_zero, if_pos (allL_at h), maxTo_zero]; omega
  | k + 1, h => by
    have ih := best_all h0 k (by omega)
    rw [bestS_succ, ih, if_pos (allL_at h), maxTo_succ]
/-- Who has as many. -/
def eqTo (c : List Int) (m : Int) (n : Nat) : List Bool := (List.range n).map fun i => c[i]?.getD 0 == m
theorem eqTo_length (c : List Int) (m : Int) (n : Nat) : (eqTo c m n).length = n := by simp [eqTo]
theorem most_great {c : List Int} {n : Nat} (hc : c.length = n) (hn : 1 ≤ n) (h0 : ∀ i, i < n → 0 ≤ c[i]?.getD 0) : mostL c (allL n) = eqTo c (maxTo c (n - 1)) n := by
  unfold mostL eqTo
  rw [hc]
  have := best_all h0 (n - 1) (by omega)
  rw [show n - 1 + 1 = n by omega] at this
  rw [this]
  refine List.map_congr_left (fun i hi => ?_)
  rw [allL_at (List.mem_range.1 hi)]; rfl
theorem over_great {c : List Int} {n : Nat} (hc : c.length = n) (hn : 1 ≤ n) (total : Int) : overL c total = decide (total < 2 * maxTo c (n - 1)) := by
  unfold overL
  by_cases h : total < 2 * maxTo c (n - 1)
  · rw [decide_eq_true h, List.any_eq_true]
    obtain ⟨i, hi, he⟩ := maxTo_hit c (n - 1)
    have hlt : i < c.length := by omega
    refine ⟨c[i], List.getElem_mem hlt, ?_⟩
    have e : c[i]?.getD 0 = c[i] := by simp [hlt]
    rw [decide_eq_true_iff]; omega
  · rw [decide_eq_false h, List.any_eq_false]
    intro z hz
    obtain ⟨i, hi, rfl⟩ := List.mem_iff_getElem.1 hz
    have e : c[i]?.getD 0 = c[i] := by simp [hi]
    have := maxTo_ge (c := c) (k := n - 1) (i := i) (by omega)
    rw [decide_eq_true_iff]; omega
/-- Whether one of the first k counts is more than half. -/
def overTo (c : List Int) (total : Int) (k : Nat) : Bool := (c.take k).any fun z => decide (total < 2 * z)
theorem overTo_zero (c : List Int) (total : Int) : overTo c total 0 = false := by simp [overTo]
theorem overTo_all {c : List Int} (total : Int) {k : Nat} (h : c.length ≤ k) : overTo c total k = overL c total := by rw [overTo, List.take_of_length_le h]; rfl
theorem overL_hit {c : List Int} {total : Int} {i : Nat} (hi : i < c.length) (h : total < 2 * c[i]?.getD 0) : overL c total = true := by
  unfold overL
  rw [List.any_eq_true]
  have e : c[i]?.getD 0 = c[i] := by simp [hi]
  exact ⟨c[i], List.getElem_mem hi, by rw [decide_eq_true_iff]; omega⟩
theorem overTo_miss {c : List Int} {total : Int} {k : Nat} (hk : k < c.length) (h : ¬ total < 2 * c[k]?.getD 0) : overTo c total (k + 1) = overTo c total k := by
  unfold overTo
  have e : c[k]?.getD 0 = c[k] := by simp [hk]
  rw [List.take_succ_eq_append_getElem hk, List.any_append]
  simp only [List.any_cons, List.any_nil, Bool.or_false]
  rw [decide_eq_false (by omega), Bool.or_false]

end Go.Proofs.Ytojfpnjnbpeniaa

namespace Go.Proofs.Ytojfpnjnbpeniaa
open Go.RowKit

theorem ints_one (zs : List Int) : ∀ u ∈ zs.map (Value.int .i64), u.oneCell' = true := by
  intro u hu
  obtain ⟨z, _, rfl⟩ := List.mem_map.1 hu
  simp [Value.oneCell']

/-- The cells behind a piece of a slice of ints: from off + p on, the first m of what is left. -/
theorem piece_cells {w : World} {b off len : Nat} {zs : List Int} (hz : zs.length = len) (hc : ∀ j, j < len → w.cell? ⟨b, off + j, none⟩ = some (.int .i64 (zs[j]?.getD 0))) (p m q : Nat) (hpm : p + m ≤ len) (hq : q = off + p) :
    ∀ j u, (((zs.drop p).take m).map (Value.int .i64))[j]? = some u → w.cell? ((⟨b, q, none⟩ : Addr).add j) = some u := by
  intro j u hj
  have hjm : j < m := by
    rcases Nat.lt_or_ge j m with h | h
    · exact h
    · rw [List.getElem?_eq_none (by simp; omega)] at hj; cases hj
  have hadd : (⟨b, q, none⟩ : Addr).add j = ⟨b, off + (p + j), none⟩ := by
    subst hq
    by_cases h : j = 0
    · subst h; simp [Addr.add]
    · simp [Addr.add, h]; omega
  rw [hadd, hc (p + j) (by omega)]
  rw [List.getElem?_map, List.getElem?_take_of_lt hjm, List.getElem?_drop] at hj
  have hlt : p + j < zs.length := by omega
  rw [List.getElem?_eq_getElem hlt] at hj ⊢
  simpa using hj

/-- .. all that is left from p on. -/
theorem piece_rest {w : World} {b off len : Nat} {zs : List Int} (hz : zs.length = len) (hc : ∀ j, j < len → w.cell? ⟨b, off + j, none⟩ = some (.int .i64 (zs[j]?.getD 0))) (p q : Nat) (hp : p ≤ len) (hq : q = off + p) :
    ∀ j u, ((zs.drop p).map (Value.int .i64))[j]? = some u → w.cell? ((⟨b, q, none⟩ : Addr).add j) = some u := by
  have h := piece_cells hz hc p (len - p) q (by omega) hq
  have e : (zs.drop p).take (len - p) = zs.drop p := List.take_of_length_le (by simp; omega)
  rwa [e] at h
theorem rest_none {zs : List Int} {p : Nat} (hp : zs.length ≤ p) : ∀ (j : Nat) (u : Value), ((zs.drop p).map (Value.int .i64))[j]? = some u → False := by
  intro j u h
  rw [List.drop_of_length_le hp] at h
  simp at h
theorem joined {w : World} {base n c : Nat} {a : Option Addr} {A B : List Int} (h : w.ownsRow base 3 1 (.slice a n c) n (A.map (Value.int .i64) ++ B.map (Value.int .i64))) (hn : n ≤ 1048600) : IsInts w a n c (A ++ B) := by
  refine IsInts.of_owned (base := base) ?_ hn
  rw [List.map_append]
  exact h

/-- An append to a new slice leaves the cells of an older block as they were. -/
theorem kept_cells {w w5 : World} {t : TypeId} {g off len n c : Nat} {zs : List Int} (hg : g < w.heap.size) (h : (w.alloc (.cells #[] t)).drew.grownBy w5 (Value.slice (some ⟨w.heap.size, 0, none⟩) n c).ownBlock)
    (hc : ∀ j, j < len → w.cell? ⟨g, off + j, none⟩ = some (.int .i64 (zs[j]?.getD 0))) : ∀ j, j < len → w5.cell? ⟨g, off + j, none⟩ = some (.int .i64 (zs[j]?.getD 0)) := fun j hj =>
  (World.cell?_of_block (w := w) ((h.block g (by show g < (w.alloc _).heap.size; simp; omega) (fun e => by
    have : (some g : Option Nat) = some w.heap.size := e
    injection this with e2
    omega)).trans (Below.heap_alloc w _ g hg))).trans (hc j hj)
theorem kept_below {w w5 : World} {t : TypeId} {n c : Nat} (h : (w.alloc (.cells #[] t)).drew.grownBy w5 (Value.slice (some ⟨w.heap.size, 0, none⟩) n c).ownBlock) : Below w.heap.size w w5 :=
  ((Below.refl w.heap.size w).alloc (Nat.le_refl _) _).drew.grown h (by show w.heap.size ≤ (w.alloc _).heap.size; simp) (fun k e => by
    have : (some w.heap.size : Option Nat) = some k := e
    injection this with e2
    omega)

end Go.Proofs.Ytojfpnjnbpeniaa

namespace Go.Proofs.Ytojfpnjnbpeniaa

/-- The lots that a seed draws of those that are left. -/
def lotR (rest : List Int) (seed : Nat) : List Int := lotL rest.length rest seed
theorem lotR_nil (seed : Nat) : lotR [] seed = [] := rfl
theorem lotR_step {rest : List Int} {m : Nat} (hm : rest.length = m) (h : m ≠ 0) (seed : Nat) : lotR rest seed = rest[seed % m]?.getD 0 :: lotR (rest.eraseIdx (seed % m)) (seed / m) := by
  subst hm
  obtain ⟨n, hn⟩ : ∃ n, rest.length = n + 1 := ⟨rest.length - 1, by omega⟩
  have hk := Nat.mod_lt seed (show 0 < rest.length by omega)
  have he : (rest.eraseIdx (seed % rest.length)).length = n := by rw [List.length_eraseIdx, if_pos hk]; omega
  unfold lotR
  rw [he]
  conv => lhs; rw [hn]
  rw [lotL_step n rest seed h]
theorem lotR_all (n seed : Nat) : lotR (fromZero n) seed = lotsOf n seed := by unfold lotR lotsOf; rw [fromZero_length]
theorem erase_length {rest : List Int} {m k : Nat} (hm : rest.length = m) (h : k < m) : (rest.eraseIdx k).length = m - 1 := by rw [List.length_eraseIdx, hm, if_pos h]

/-- The number of candidates and the seed are in range. -/
def okLots (n seed : Int) : Bool := inB n 1 5 && inB seed 0 999
/-- What LotsOf returns. -/
def lotsI (n seed : Int) : List Int := if okLots n seed = true then lotsOf n.toNat seed.toNat else []
theorem okLots_of {n seed : Int} (h : okLots n seed = true) : (1 ≤ n ∧ n ≤ 5) ∧ 0 ≤ seed ∧ seed ≤ 999 := by simpa [okLots, inB] using h
theorem okLots_yes {n seed : Int} (h1 : 1 ≤ n) (h2 : n ≤ 5) (h3 : 0 ≤ seed) (h4 : seed ≤ 999) : okLots n seed = true := by simp [okLots, inB]; omega
theorem okLots_no {n seed : Int} (h : n < 1 ∨ 5 < n ∨ seed < 0 ∨ 999 < seed) : okLots n seed = false := by
  cases hk : okLots n seed
  · rfl
  · have := okLots_of hk; omega
theorem lotsI_yes {n seed : Int} (h : okLots n seed = true) : lotsI n seed = lotsOf n.toNat seed.toNat := by rw [lotsI, if_pos h]
theorem lotsI_no {n seed : Int} (h : okLots n seed = false) : lotsI n seed = [] := by rw [lotsI, h]; rfl
theorem lotsI_short (n seed : Int) : (lotsI n seed).length ≤ 5 := by
  cases h : okLots n seed
  · rw [lotsI_no h]; simp
  · have := okLots_of h
    rw [lotsI_yes h, lotsOf_length]; omega
theorem lotsI_length {n seed : Int} (h : okLots n seed = true) : ((lotsI n seed).length : Int) = n := by
  have := okLots_of h
  rw [lotsI_yes h, lotsOf_length]; omega
theorem lotsI_valid {n seed : Int} (h : okLots n seed = true) : lotsB (lotsI n seed) = true := by
  have := okLots_of h
  rw [lotsI_yes h]; exact lotsOf_valid (by omega) (by omega)
theorem lotsI_head {n seed : Int} (h : okLots n seed = true) : (lotsI n seed)[0]?.getD 0 = seed % n := by
  have := okLots_of h
  rw [lotsI_yes h, lotsOf_head (by omega), Int.natCast_emod, Int.toNat_of_nonneg (by omega), Int.toNat_of_nonneg (by omega)]

/-- The product of 1 to n. -/
def factI (n : Int) : Int := (factN n.toNat : Int)
/-- The product of the numbers up to i (those above 1). -/
theorem fact_small (k : Nat) (h : k ≤ 5) : factN k = [1, 1, 2, 6, 24, 120][k]?.getD 0 := by
  have e : k = 0 ∨ k = 1 ∨ k = 2 ∨ k = 3 ∨ k = 4 ∨ k = 5 := by omega
  rcases e with rfl | rfl | rfl | rfl | rfl | rfl <;> rfl
theorem lotsI_more {n seed : Int} (h : okLots n seed = true) (h2 : okLots n (seed + factI n) = true) : lotsI n (seed + factI n) = lotsI n seed := by
  have := okLots_of h
  rw [lotsI_yes h, lotsI_yes h2, show (seed + factI n).toNat = seed.toNat + factN n.toNat by unfold factI; omega, lotsOf_more]
/-- **Each order of two lots has a seed.** -/
theorem lotsI_swap {n seed : Int} (h : okLots n seed = true) (h2 : 2 ≤ n) : ∃ q : Nat, q < 120 ∧ lotsI n (q : Int) = (lotsI n seed)[1]?.getD 0 :: (lotsI n seed)[0]?.getD 0 :: (lotsI n seed).drop 2 := by
  have hh := okLots_of h
  obtain ⟨m, rfl⟩ := Int.eq_ofNat_of_zero_le (show 0 ≤ n by omega)
  obtain ⟨s, rfl⟩ := Int.eq_ofNat_of_zero_le (show 0 ≤ seed by omega)
  rw [lotsI_yes h, Int.toNat_natCast, Int.toNat_natCast, lotsOf_mod m s]
  have hf : 0 < factN m := by rw [fact_small m (by omega)]; have e : m = 2 ∨ m = 3 ∨ m = 4 ∨ m = 5 := by omega
                              rcases e with rfl | rfl | rfl | rfl <;> decide
  obtain ⟨q, hq, he⟩ := lots_swap_all m (by omega) (by omega) (s % factN m) (Nat.mod_lt _ hf)
  refine ⟨q, hq, ?_⟩
  rw [lotsI_yes (okLots_yes (by omega) (by omega) (by omega) (by omega)), Int.toNat_natCast, Int.toNat_natCast, he]

/-- Lots turned about are lots. -/
theorem lotsB_reverse {zs : List Int} (h : lotsB zs = true) : lotsB zs.reverse = true := lotsB_perm h (List.reverse_perm zs)
/-- **Lots whose last one is exchanged for the first are none.** -/
theorem lotsB_twice {zs : List Int} (h2 : 2 ≤ zs.length) : lotsB (zs.take (zs.length - 1) ++ [zs[0]?.getD 0]) = false := by
  cases hv : lotsB (zs.take (zs.length - 1) ++ [zs[0]?.getD 0])
  · rfl
  · exfalso
    have hn := vB_nodup hv
    rw [List.nodup_append] at hn
    have hm : zs[0]?.getD 0 ∈ zs.take (zs.length - 1) := by
      have h0 : 0 < zs.length := by omega
      have h1 : 0 < (zs.take (zs.length - 1)).length := by simp; omega
      have e : zs[0]?.getD 0 = (zs.take (zs.length - 1))[0] := by simp [h0]
      rw [e]; exact List.getElem_mem h1
    exact hn.2.2 _ hm _ (by simp) rfl

/-- What LotsFirst returns. -/
def pickB (zs : List Int) (L : List Bool) : Int := if lotsB zs = true ∧ L.length = zs.length then pickL zs L else -1
theorem lotsB_mem {zs : List Int} (h : lotsB zs = true) : ∀ z ∈ zs, 0 ≤ z ∧ z < (zs.length : Int) := (vB_mem h).2.2
/-- What LotsSeal returns. -/
def sealB (a b : Int) : Int := if inB a 0 999 = true ∧ inB b 0 999 = true then sealV a b else -1
theorem inB_of {x lo hi : Int} (h : inB x lo hi = true) : lo ≤ x ∧ x ≤ hi := by simpa [inB] using h
theorem inB_yes {x lo hi : Int} (h1 : lo ≤ x) (h2 : x ≤ hi) : inB x lo hi = true := by simp [inB]; omega
theorem inB_no {x lo hi : Int} (h : x < lo ∨ hi < x) : inB x lo hi = false := by simp [inB]; omega
theorem sealB_yes {a b : Int} (ha : 0 ≤ a ∧ a ≤ 999) (hb : 0 ≤ b ∧ b ≤ 999) : sealB a b = sealV a b := by rw [sealB, if_pos ⟨inB_yes ha.1 ha.2, inB_yes hb.1 hb.2⟩]
theorem sealB_no {a b : Int} (h : (a < 0 ∨ 999 < a) ∨ (b < 0 ∨ 999 < b)) : sealB a b = -1 := by
  rw [sealB, if_neg]
  rintro ⟨h1, h2⟩
  have := inB_of h1; have := inB_of h2; omega
theorem sealB_neg {a b : Int} : sealB a b < 0 ↔ ¬ ((0 ≤ a ∧ a ≤ 999) ∧ 0 ≤ b ∧ b ≤ 999) := by
  constructor
  · rintro h ⟨ha, hb⟩
    rw [sealB_yes ha hb, sealV] at h
    have := Int.emod_nonneg (a * 7919 + b * 104729 + 12345) (show (1000003 : Int) ≠ 0 by decide)
    omega
  · intro h
    rw [sealB_no (by omega)]; decide

end Go.Proofs.Ytojfpnjnbpeniaa

namespace Go.Proofs.Ytojfpnjnbpeniaa
open Go.RowKit

attribute [local go_sem] Oper.semAt_some

theorem told_nil {w w1 : World} (hb : Below w.heap.size w w1) : Told w [] false (.returned (.tuple #[.slice (some ⟨w1.heap.size, 0, none⟩) 0 0, .bool false])) (w1.alloc (.cells #[] 3)) :=
  ⟨some ⟨w1.heap.size, 0, none⟩, 0, rfl, World.ownsRow_lit w1 #[] 0 hb.size (by unfold maxLen; omega) rfl, hb.alloc hb.size _⟩

set_option maxRecDepth 100000 in
set_option maxHeartbeats 2000000 in
/-- **spec.PlaceCounts**. -/
theorem specPlace_as (a : Option Addr) (len cap : Nat) (ps : List Pl) (n : Int) (v : Bool) (l : List Int) (w : World) (h : IsPiles w a len cap ps) (hs : Small ps) (hv : fitsB ps n = v) (hl : plaR ps n = l) :
    Calls Try.prog 29 #[.slice a len cap, .int .i64 n] w (Told w l v) := by
  have HI := Lib.hid h
  have HS := Lib.hid hs
  have HV := Lib.hid hv
  clear h hs
  cases v
  · have e : l = [] := by rw [← hl, plaR, if_neg (by rw [hv]; decide)]
    subst e
    clear hl hv
    go_enter Try.func29, Try.ntmps29
    go_wp2_with fail
    refine (specFits_as _ _ _ ps n false _ HI.out HS.out HV.out).mono ?_
    rintro e w1 ⟨rfl, hb⟩
    go_wp2
    go_ret2
    exact told_nil hb
  · obtain ⟨-, hn1, hn5, -⟩ := fits_parts hv
    obtain ⟨N, rfl⟩ : ∃ N : Nat, n = (N : Int) := ⟨n.toNat, by omega⟩
    have e : plaR ps (N : Int) = ptL (plaP N) ps N := by rw [plaR, if_pos hv, Int.toNat_natCast, pla_pts]
    have HL : Hid (ptL (plaP N) ps N = l) := by rw [Hid, ← e, hl]
    have hlen : (ptL (plaP N) ps N).length = N := ptL_length _ _ _
    clear hl hv e
    go_enter Try.func29, Try.ntmps29
    go_wp2_with fail
    refine (specFits_as _ _ _ ps (N : Int) true _ HI.out HS.out HV.out).mono ?_
    rintro e w1 ⟨rfl, hb⟩
    go_wp2_with fail
    refine (specPlace0_as _ _ _ ps N _ (HI.out.below hb) HS.out HV.out).mono ?_
    rintro e w2 ⟨g, rfl, ho, hb2⟩
    have HO := Lib.hid (ho.mono hb.size)
    have HB := Lib.hid (hb.trans (hb2.mono hb.size))
    clear ho hb hb2
    go_wp2
    go_ret2
    rw [HL.out] at hlen
    rw [HL.out] at HO
    rw [Told, hlen]
    exact ⟨some ⟨g, 0, none⟩, N, rfl, HO.out, HB.out⟩

set_option maxRecDepth 100000 in
set_option maxHeartbeats 2000000 in
/-- **spec.DepthCounts**. -/
theorem specDepth_as (a : Option Addr) (len cap : Nat) (ps : List Pl) (n d : Int) (v : Bool) (l : List Int) (w : World) (h : IsPiles w a len cap ps) (hs : Small ps) (hv : depOk ps n d = v) (hl : depR ps n d = l) :
    Calls Try.prog 17 #[.slice a len cap, .int .i64 n, .int .i64 d] w (Told w l v) := by
  have HI := Lib.hid h
  have HS := Lib.hid hs
  clear h hs
  cases hf : fitsB ps n
  · have e1 : depOk ps n d = false := by rw [depOk, hf]; rfl
    rw [e1] at hv
    rw [depR_no e1] at hl
    subst hv hl
    have HF := Lib.hid hf
    clear e1 hf
    go_enter Try.func17, Try.ntmps17
    go_wp2_with fail
    refine (specFits_as _ _ _ ps n false _ HI.out HS.out HF.out).mono ?_
    rintro e w1 ⟨rfl, hb⟩
    go_wp2
    go_ret2
    exact told_nil hb
  · have HF := Lib.hid hf
    cases hi : inB d 0 5
    · have e1 : depOk ps n d = false := by rw [depOk, hf, hi]; rfl
      rw [e1] at hv
      rw [depR_no e1] at hl
      subst hv hl
      have HD := Lib.hid hi
      clear e1 hf hi
      go_enter Try.func17, Try.ntmps17
      go_wp2_with fail
      refine (specFits_as _ _ _ ps n true _ HI.out HS.out HF.out).mono ?_
      rintro e w1 ⟨rfl, hb⟩
      go_wp2_with fail
      refine (l6In_any _ _ _ _).mono ?_
      rintro e w' ⟨he, rfl⟩
      rw [HD.out] at he
      subst he
      go_wp2
      go_ret2
      exact told_nil hb
    · obtain ⟨-, hn1, hn5, -⟩ := fits_parts hf
      have hd := inB_of hi
      obtain ⟨N, rfl⟩ : ∃ N : Nat, n = (N : Int) := ⟨n.toNat, by omega⟩
      obtain ⟨k, rfl⟩ := Int.eq_ofNat_of_zero_le hd.1
      have e1 : depOk ps (N : Int) (k : Int) = true := by rw [depOk, hf, hi]; rfl
      have e : depR ps (N : Int) (k : Int) = ptL (depP k) ps N := by rw [depR, if_pos e1, Int.toNat_natCast, Int.toNat_natCast, dep_pts]
      have HL : Hid (ptL (depP k) ps N = l) := by rw [Hid, ← e, hl]
      have hlen : (ptL (depP k) ps N).length = N := ptL_length _ _ _
      rw [e1] at hv
      subst hv
      have HD := Lib.hid hi
      clear hl hf e e1 hi
      go_enter Try.func17, Try.ntmps17
      go_wp2_with fail
      refine (specFits_as _ _ _ ps (N : Int) true _ HI.out HS.out HF.out).mono ?_
      rintro e w1 ⟨rfl, hb⟩
      go_wp2_with fail
      refine (l6In_any _ _ _ _).mono ?_
      rintro e w' ⟨he, rfl⟩
      rw [HD.out] at he
      subst he
      go_wp2_with fail
      refine (specDepth0_as _ _ _ ps N k _ (HI.out.below hb) HS.out HF.out).mono ?_
      rintro e w2 ⟨g, rfl, ho, hb2⟩
      have HO := Lib.hid (ho.mono hb.size)
      have HB := Lib.hid (hb.trans (hb2.mono hb.size))
      clear ho hb hb2
      go_wp2
      go_ret2
      rw [HL.out] at hlen
      rw [HL.out] at HO
      rw [Told, hlen]
      exact ⟨some ⟨g, 0, none⟩, N, rfl, HO.out, HB.out⟩

set_option maxHeartbeats 2000000 in
/-- **l14Over**. -/
theorem over14_as (a : Option Addr) (len cap : Nat) (cs : List Int) (total : Int) (v : Bool) (w : World) (h : IsInts w a len cap cs) (hb : ∀ x : Nat, 0 ≤ cs[x]?.getD 0 ∧ cs[x]?.getD 0 ≤ 10000) (hv : overL cs total = v) :
    Calls Try.prog 64 #[.slice a len cap, .int .i64 total] w fun e w' => e = .returned (.bool v) ∧ w = w' := by
  obtain ⟨h1, h2, h3, h4⟩ := h
  have H1 := Lib.hid h1
  have H4 := Lib.hid h4
  have HB := Lib.hid hb
  have HV := Lib.hid hv
  clear h1 h4 hb hv
  go_enter Try.func64, Try.ntmps64
  go_wp2
  go_loop [5] (fun iv => ∃ i : Nat, i ≤ len ∧ iv = .int .i64 (i : Int) ∧ Hid (overTo cs total i = false)) (fun iv => len - (intOf iv).toNat)
  case atStart => exact ⟨0, Nat.zero_le _, rfl, overTo_zero _ _⟩
  case round =>
    obtain ⟨i, hil, rfl, hA⟩ := hrel
    by_cases hlt : i < len
    · obtain ⟨b, off, rfl, hb, hc⟩ := H4.out (by omega)
      have ci := hc i hlt
      obtain ⟨z, hz⟩ : ∃ z, cs[i]?.getD 0 = z := ⟨_, rfl⟩
      have hzb := HB.out i
      rw [hz] at ci hzb
      have HZ := Lib.hid hz
      clear hc hz
      by_cases ho : total < 2 * z
      · have hd : decide (total < 2 * z) = true := decide_eq_true ho
        go_wp2
        go_ret
        exact ⟨ret_bool (by rw [← HV.out, overL_hit (i := i) (by rw [H1.out]; exact hlt) (by rw [HZ.out]; exact ho)]), rfl⟩
      · have hd : decide (total < 2 * z) = false := decide_eq_false ho
        have HN : Hid (overTo cs total (i + 1) = false) := by rw [Hid, overTo_miss (by rw [H1.out]; exact hlt) (by rw [HZ.out]; exact ho)]; exact hA.out
        go_wp2
        go_round
        case rel => exact ⟨i + 1, by omega, by go_num, HN⟩
        case measure => simp [intOf]; omega
    · obtain rfl : i = len := by omega
      have HE : Hid (overL cs total = false) := by rw [Hid, ← overTo_all total (k := i) (by rw [H1.out]; exact Nat.le_refl _)]; exact hA.out
      go_wp2
      go_ret
      exact ⟨ret_bool (by rw [← HV.out, HE.out]), rfl⟩

theorem bool_info10 : (Try.prog.info? 4).map (fun i => (i.zero, i.size, i.bytes)) = some (some (.bool false), 1, 1) := by kernel_rfl
theorem boolsRow_is {w : World} {base n c : Nat} {a : Option Addr} {L : List Bool} (h : w.ownsRow base 4 1 (.slice a n c) n (L.map Value.bool)) (hl : L.length = n) (hn : n ≤ 1048600) : IsBools w a n c L := by
  rcases h.2 with ⟨e1, e0⟩ | ⟨g, c', cur, e1, hb, hg, hc1, hc2, _⟩
  · injection e1 with e1 _ e3
    subst e1 e3 e0
    exact ⟨hl, Nat.le_refl _, hn, fun hp => by omega⟩
  · injection e1 with e1 _ e3
    subst e1 e3
    refine ⟨hl, hc1, hn, fun hp => ⟨g, 0, rfl, (h.lt g rfl).2, fun j hj => ?_⟩⟩
    rw [Nat.zero_add, h.cellAt j (by omega)]
    simp [hl, hj]

set_option maxRecDepth 100000 in
set_option maxHeartbeats 2000000 in
/-- **l11All**. -/
theorem all11_as (n : Nat) (w : World) (hn : n ≤ 5) :
    Calls Try.prog 68 #[.int .i64 (n : Int)] w fun e w' => ∃ a c, e = .returned (.slice a n c) ∧ w'.ownsRow w.heap.size 4 1 (.slice a n c) n ((allL n).map Value.bool) ∧ Below w.heap.size w w' := by
  obtain ⟨i0, hi, hz0, hz1, hz2⟩ := info_parts bool_info10
  have HE0 := Lib.hid (World.ownsRow_lit (base := w.heap.size) (e := 4) (size := 1) w #[] 0 (Nat.le_refl _) (by unfold maxLen; omega) rfl)
  have HB0 : Below w.heap.size w (w.alloc (.cells #[] 4)) := (Below.refl _ w).alloc (Nat.le_refl _) _
  go_enter Try.func68, Try.ntmps68
  go_wp2
  go_loopw [3, 4] (fun rv iv wr => ∃ (k : Nat) (a : Option Addr) (cap : Nat), k ≤ n ∧ iv = .int .i64 (k : Int) ∧ rv = .slice a k cap ∧ Hid (wr.ownsRow w.heap.size 4 1 (.slice a k cap) k ((allL k).map Value.bool)) ∧ Below w.heap.size w wr) (fun _ iv _ => n - (intOf iv).toNat)
  case atStart => exact ⟨0, _, _, Nat.zero_le _, rfl, rfl, HE0.out, HB0⟩
  case round =>
    clear HE0 HB0
    obtain ⟨k, a, cap, hk, rfl, rfl, ho, hB⟩ := hrel
    by_cases hlt : k < n
    · go_wp2_with (at_builtin; refine wpList_append_own _ rfl _ _ 31 rfl w.heap.size 4 i0 (.bool false) 1 1 Try.underlying31 hi hz0 hz1 hz2 rfl (by decide) _ _ _ rfl (ho.out.alloc _) ⟨wr.heap.size, 0, none⟩ 1 1 [.bool true] rfl rfl (cell_one_new _ _ _) (by simp [Value.oneCell']) (by unfold maxLen; omega) (by omega) (by have := hB.size; simp; omega) ?_; intro v' w4 hown' hgrow _; obtain ⟨a4, cap4, rfl⟩ := owns_slice hown')
      have hrow : ∀ j, (Value.slice a k cap).ownBlock = some j → w.heap.size ≤ j := fun j ej => (ho.out.lt j ej).1
      have hB4 := (hB.alloc hB.size (.cells #[.bool true] 4)).grown hgrow (by have := hB.size; simp; omega) (fun j e => hrow j e)
      have HO4 : Hid (w4.ownsRow w.heap.size 4 1 (.slice a4 (k + 1) cap4) (k + 1) ((allL (k + 1)).map Value.bool)) := by
        unfold Hid; rw [allL, List.replicate_succ', List.map_append]; exact hown'
      clear hown' hgrow hrow
      go_wp2
      go_roundw
      case rel => exact ⟨k + 1, a4, cap4, by omega, by go_num, rfl, HO4.out, hB4⟩
      case measure => simp [intOf]; omega
    · obtain rfl : k = n := by omega
      go_wp2
      go_ret
      exact ⟨a, cap, rfl, ho.out, hB⟩

/-- What l11Most has found so far. -/
def mostTo (cs : List Int) (s : List Bool) (m : Int) (k : Nat) : List Bool := (List.range k).map fun i => s[i]?.getD false && (cs[i]?.getD 0 == m)
theorem mostTo_succ (cs : List Int) (s : List Bool) (m : Int) (k : Nat) : mostTo cs s m (k + 1) = mostTo cs s m k ++ [s[k]?.getD false && (cs[k]?.getD 0 == m)] := by simp [mostTo, List.range_succ]
theorem bestS_low (cs : List Int) (s : List Bool) : ∀ k, -1 ≤ bestS cs s k
  | 0 => by rw [bestS_zero]; omega
  | k + 1 => by rw [bestS_succ]; have := bestS_low cs s k; split <;> omega

set_option maxRecDepth 100000 in
set_option maxHeartbeats 4000000 in
/-- **l11Most**. -/
theorem most11_as (a : Option Addr) (n cap : Nat) (cs : List Int) (a' : Option Addr) (cap' : Nat) (s : List Bool) (w : World) (h : IsInts w a n cap cs) (h' : IsBools w a' n cap' s) (L : List Bool) (hL : mostL cs s = L) :
    Calls Try.prog 67 #[.slice a n cap, .slice a' n cap'] w fun e w' => ∃ a c, e = .returned (.slice a n c) ∧ w'.ownsRow w.heap.size 4 1 (.slice a n c) n (L.map Value.bool) ∧ Below w.heap.size w w' := by
  obtain ⟨i0, hi, hz0, hz1, hz2⟩ := info_parts bool_info10
  obtain ⟨h1, h2, h3, h4⟩ := h
  obtain ⟨g1, g2, g3, g4⟩ := id h'
  have H1 := Lib.hid h1
  have H4 := Lib.hid h4
  have G4 := Lib.hid g4
  have HL := Lib.hid hL
  clear h1 h4 g4 g1 hL h'
  go_enter Try.func67, Try.ntmps67
  go_wp2
  go_loop [5, 6] (fun bv iv => ∃ (i : Nat) (m : Int), i ≤ n ∧ iv = .int .i64 (i : Int) ∧ bv = .int .i64 m ∧ Hid (bestS cs s i = m)) (fun _ iv => n - (intOf iv).toNat)
  case atStart => exact ⟨0, -1, Nat.zero_le _, rfl, rfl, bestS_zero _ _⟩
  case round =>
    obtain ⟨i, m, hin, rfl, rfl, hM⟩ := hrel
    by_cases hlt : i < n
    · obtain ⟨b, off, rfl, hb, hc⟩ := H4.out (by omega)
      obtain ⟨b', off', rfl, hb', hc'⟩ := G4.out (by omega)
      have ci := hc i hlt
      have si := hc' i hlt
      obtain ⟨z, hz⟩ : ∃ z, cs[i]?.getD 0 = z := ⟨_, rfl⟩
      obtain ⟨u, hu⟩ : ∃ u, s[i]?.getD false = u := ⟨_, rfl⟩
      rw [hz] at ci
      rw [hu] at si
      have HN : Hid (bestS cs s (i + 1) = if u = true then max m z else m) := by rw [Hid, bestS_succ, hu, hz, hM.out]
      clear hc hc' hz hu
      cases u
      · have HN2 : Hid (bestS cs s (i + 1) = m) := by rw [Hid, HN.out]; rfl
        clear HN
        go_wp2
        go_round
        case rel => exact ⟨i + 1, m, by omega, by go_num, rfl, HN2⟩
        case measure => simp [intOf]; omega
      · by_cases hmz : m < z
        · have HN2 : Hid (bestS cs s (i + 1) = z) := by rw [Hid, HN.out, if_pos rfl]; omega
          clear HN
          go_wp2
          go_round
          case rel => exact ⟨i + 1, z, by omega, by go_num, by first | rfl | (congr 1; omega), HN2⟩
          case measure => simp [intOf]; omega
        · have HN2 : Hid (bestS cs s (i + 1) = m) := by rw [Hid, HN.out, if_pos rfl]; omega
          clear HN
          go_wp2
          go_round
          case rel => exact ⟨i + 1, m, by omega, by go_num, by first | rfl | (congr 1; omega), HN2⟩
          case measure => simp [intOf]; omega
    · obtain rfl : i = n := by omega
      have HL2 : Hid (mostTo cs s m i = L) := by rw [Hid, ← HL.out, mostL, H1.out, hM.out]; rfl
      have HE0 := Lib.hid (World.ownsRow_lit (base := w.heap.size) (e := 4) (size := 1) w #[] 0 (Nat.le_refl _) (by unfold maxLen; omega) rfl)
      have HB0 : Below w.heap.size w (w.alloc (.cells #[] 4)) := (Below.refl _ w).alloc (Nat.le_refl _) _
      go_wp2
      go_loopw [7, 8] (fun rv iv wr => ∃ (k : Nat) (a : Option Addr) (cap : Nat), k ≤ i ∧ iv = .int .i64 (k : Int) ∧ rv = .slice a k cap ∧ Hid (wr.ownsRow w.heap.size 4 1 (.slice a k cap) k ((mostTo cs s m k).map Value.bool)) ∧ Below w.heap.size w wr) (fun _ iv _ => i - (intOf iv).toNat)
      case atStart => exact ⟨0, _, _, Nat.zero_le _, rfl, rfl, HE0.out, HB0⟩
      case round =>
        clear HE0 HB0
        obtain ⟨k, ar, cr, hk, rfl, rfl, ho, hB⟩ := hrel
        by_cases hlt : k < i
        · obtain ⟨b, off, rfl, hb, hc⟩ := H4.out (by omega)
          obtain ⟨b', off', rfl, hb', hc'⟩ := G4.out (by omega)
          have ck : wr.cell? ⟨b, off + k, none⟩ = _ := (hB.cell (p := ⟨b, off + k, none⟩) hb).trans (hc k hlt)
          have sk : wr.cell? ⟨b', off' + k, none⟩ = _ := (hB.cell (p := ⟨b', off' + k, none⟩) hb').trans (hc' k hlt)
          obtain ⟨z, hz⟩ : ∃ z, cs[k]?.getD 0 = z := ⟨_, rfl⟩
          obtain ⟨u, hu⟩ : ∃ u, s[k]?.getD false = u := ⟨_, rfl⟩
          obtain ⟨q, hq⟩ : ∃ q, (z == m) = q := ⟨_, rfl⟩
          rw [hz] at ck
          rw [hu] at sk
          have HN : Hid (mostTo cs s m (k + 1) = mostTo cs s m k ++ [u && q]) := by rw [Hid, mostTo_succ, hu, hz, hq]
          clear hc hc' hz hu
          cases u
          · skip
            go_wp2_with (at_builtin; refine wpList_append_own _ rfl _ _ 31 rfl w.heap.size 4 i0 (.bool false) 1 1 Try.underlying31 hi hz0 hz1 hz2 rfl (by decide) _ _ _ rfl (ho.out.alloc _) ⟨wr.heap.size, 0, none⟩ 1 1 [.bool (false)] rfl rfl (cell_one_new _ _ _) (by simp [Value.oneCell']) (by unfold maxLen; omega) (by omega) (by have := hB.size; simp; omega) ?_; intro v' w4 hown' hgrow _; obtain ⟨a4, cap4, rfl⟩ := owns_slice hown')
            have hrow : ∀ j, (Value.slice ar k cr).ownBlock = some j → w.heap.size ≤ j := fun j ej => (ho.out.lt j ej).1
            have hB4 := (hB.alloc hB.size (.cells #[.bool (false)] 4)).grown hgrow (by have := hB.size; simp; omega) (fun j e => hrow j e)
            have HO4 : Hid (w4.ownsRow w.heap.size 4 1 (.slice a4 (k + 1) cap4) (k + 1) ((mostTo cs s m (k + 1)).map Value.bool)) := by
              unfold Hid; rw [HN.out, List.map_append]; exact hown'
            clear hown' hgrow hrow
            go_wp2
            go_roundw
            case rel => exact ⟨k + 1, a4, cap4, by omega, by go_num, rfl, HO4.out, hB4⟩
            case measure => simp [intOf]; omega
          · skip
            go_wp2_with (at_builtin; refine wpList_append_own _ rfl _ _ 31 rfl w.heap.size 4 i0 (.bool false) 1 1 Try.underlying31 hi hz0 hz1 hz2 rfl (by decide) _ _ _ rfl (ho.out.alloc _) ⟨wr.heap.size, 0, none⟩ 1 1 [.bool (q)] rfl rfl (cell_one_new _ _ _) (by simp [Value.oneCell']) (by unfold maxLen; omega) (by omega) (by have := hB.size; simp; omega) ?_; intro v' w4 hown' hgrow _; obtain ⟨a4, cap4, rfl⟩ := owns_slice hown')
            have hrow : ∀ j, (Value.slice ar k cr).ownBlock = some j → w.heap.size ≤ j := fun j ej => (ho.out.lt j ej).1
            have hB4 := (hB.alloc hB.size (.cells #[.bool (q)] 4)).grown hgrow (by have := hB.size; simp; omega) (fun j e => hrow j e)
            have HO4 : Hid (w4.ownsRow w.heap.size 4 1 (.slice a4 (k + 1) cap4) (k + 1) ((mostTo cs s m (k + 1)).map Value.bool)) := by
              unfold Hid; rw [HN.out, List.map_append]; exact hown'
            clear hown' hgrow hrow
            go_wp2
            go_roundw
            case rel => exact ⟨k + 1, a4, cap4, by omega, by go_num, rfl, HO4.out, hB4⟩
            case measure => simp [intOf]; omega
        · obtain rfl : k = i := by omega
          go_wp2
          go_ret
          exact ⟨ar, cr, rfl, by rw [← HL2.out]; exact ho.out, hB⟩

end Go.Proofs.Ytojfpnjnbpeniaa

namespace Go.Proofs.Ytojfpnjnbpeniaa
open Go.RowKit

attribute [local go_sem] Oper.semAt_some

/-- A point, if something is true. -/
def oneI (b : Bool) : Int := if b = true then 1 else 0
theorem onePoint_any (b : Bool) (w : World) : Calls Try.prog 112 #[.bool b] w fun e w' => e = .returned (.int .i64 (oneI b)) ∧ w = w' := by
  cases b
  · go_enter Try.func112, Try.ntmps112
    go_wp2
    go_ret
    exact ⟨rfl, rfl⟩
  · go_enter Try.func112, Try.ntmps112
    go_wp2
    go_ret
    exact ⟨rfl, rfl⟩
theorem wayPlace_any (i n : Nat) (w : World) (hi : i < n) (hn : n ≤ 5) : Calls Try.prog 110 #[.int .i64 (i : Int), .int .i64 (n : Int)] w fun e w' => e = .returned (.int .i64 ((n : Int) - 1 - (i : Int))) ∧ w = w' := by
  go_enter Try.func110, Try.ntmps110
  go_wp2
  go_ret
  exact ⟨rfl, rfl⟩
theorem wayLast_any (i n : Nat) (w : World) (hi : i < n) (hn : n ≤ 5) : Calls Try.prog 111 #[.int .i64 (i : Int), .int .i64 (n : Int)] w fun e w' => e = .returned (.int .i64 (oneI (decide (i = n - 1)))) ∧ w = w' := by
  obtain ⟨v, hv⟩ : ∃ v, ((i : Int) == (n : Int) - 1) = v := ⟨_, rfl⟩
  have HV : Hid (v = decide (i = n - 1)) := by
    rw [Hid, ← hv]
    by_cases e : i = n - 1
    · rw [decide_eq_true e]; exact beq_iff_eq.2 (by omega)
    · rw [decide_eq_false e]; exact beq_eq_false_iff_ne.2 (by omega)
  go_enter Try.func111, Try.ntmps111
  go_wp2_with fail
  refine (onePoint_any v _).mono ?_
  rintro e w1 ⟨rfl, rfl⟩
  go_wp2
  go_ret
  exact ⟨ret_int (by rw [HV.out]), rfl⟩
theorem wayDepth_any (g d i n : Nat) (w : World) (hc : w.cell? ⟨g, 0, none⟩ = some (.int .i64 (d : Int))) : Calls Try.prog 113 #[.int .i64 (i : Int), .int .i64 (n : Int), .pointer (some ⟨g, 0, none⟩)] w fun e w' => e = .returned (.int .i64 (oneI (decide (i < d)))) ∧ w = w' := by
  obtain ⟨v, hv⟩ : ∃ v, decide (i < d) = v := ⟨_, rfl⟩
  have HV : Hid (v = decide (i < d)) := hv.symm
  go_enter Try.func113, Try.ntmps113
  go_wp2_with fail
  refine (onePoint_any v _).mono ?_
  rintro e w1 ⟨rfl, rfl⟩
  go_wp2
  go_ret
  exact ⟨ret_int (by rw [HV.out]), rfl⟩

end Go.Proofs.Ytojfpnjnbpeniaa
