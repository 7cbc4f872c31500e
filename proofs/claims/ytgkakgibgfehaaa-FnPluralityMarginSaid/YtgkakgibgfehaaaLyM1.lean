/-
  What XPluralityMarginLW need besides: of XOpen, XByteI, XPiles, XSumP, XCountP, XLotP, XWinP, XPlurP, XMergeS, XGreatP, XLotQ, XLotI, XGreatI, XLotS, XLotN, XPlurI, XPieces, XMost, XPlurS, XDrawPd, XLotOS, XDrawLo, XDrawCt, XDrawPw.
-/
import Derived.Test.YtgkakgibgfehaaaSh3
import Derived.Test.YtgkakgibgfehaaaSh7
import Derived.Test.YtgkakgibgfehaaaSh26
import Derived.Test.YtgkakgibgfehaaaFaM
import Derived.ProofKit
import Derived.OpenShut
import Derived.ShutString
import Derived.ChangeOld
import Derived.Below
import Derived.Deep.Grids
import Derived.Laws.BytesArg
import Derived.Laws.Concat
import Derived.Maps.AppendAt
import Derived.StillTailTactics
import Derived.Maps.RangeWalk
import Derived.Deep.RegionLaw
import Derived.Deep.AppendLies
namespace Go.Proofs.Ytgkakgibgfehaaa
open Go.RowKit

theorem IsBytes.below {w w' : World} {a : Option Addr} {len : Nat} {zs : List Int} (h : IsBytes w a len zs) (hb : Below w.heap.size w w') : IsBytes w' a len zs := by
  obtain ⟨h1, h2, h4⟩ := h
  refine ⟨h1, h2, fun hl => ?_⟩
  obtain ⟨b, off, e, hlt, hc⟩ := h4 hl
  exact ⟨b, off, e, Nat.lt_of_lt_of_le hlt hb.size, fun j hj => (hb.cell (p := ⟨b, off + j, none⟩) hlt).trans (hc j hj)⟩

theorem IsBools.dr {w w' : World} {a : Option Addr} {len cap : Nat} {zs : List Bool} (h : IsBools w a len cap zs) (hd : Dr w w') : IsBools w' a len cap zs := h.below (hd.below _)

end Go.Proofs.Ytgkakgibgfehaaa

namespace Go.Proofs.Ytgkakgibgfehaaa
open Go.RowKit Go.Shelf

/-- A candidate's number. -/
abbrev C5 := { z : Int // 0 ≤ z ∧ z < 5 }

end Go.Proofs.Ytgkakgibgfehaaa

namespace Go.Proofs.Ytgkakgibgfehaaa
open Go.RowKit

theorem IsPiles.dr {w w' : World} {a : Option Addr} {len cap : Nat} {ps : List Pl} (h : IsPiles w a len cap ps) (hd : Dr w w') : IsPiles w' a len cap ps := h.below (hd.below _)
end Go.Proofs.Ytgkakgibgfehaaa

namespace Go.Proofs.Ytgkakgibgfehaaa

theorem wsum_nonneg {f : ByteArray → Int} {ps : List Pl} (h : ∀ p ∈ ps, 0 ≤ f p.1) (hp : ∀ p ∈ ps, 1 ≤ p.2) : 0 ≤ wsum f ps := by
  have := wsum_le (f := fun _ => 0) h hp
  rwa [wsum_zero] at this
end Go.Proofs.Ytgkakgibgfehaaa

namespace Go.Proofs.Ytgkakgibgfehaaa

theorem counts_low {ps : List Pl} {L : List Bool} {k : Nat} (hk : k < L.length) (hp : ∀ p ∈ ps, 1 ≤ p.2) : 0 ≤ (countsL ps L)[k]?.getD 0 := by
  rw [countsL_at _ _ hk]
  exact wsum_nonneg (fun p _ => oneF_low _ _ _) hp
end Go.Proofs.Ytgkakgibgfehaaa

namespace Go.Proofs.Ytgkakgibgfehaaa

/-- Lots are valid. -/
def lotsB (zs : List Int) : Bool := validB zs (zs.length : Int)
theorem lotsB_len {zs : List Int} (h : lotsB zs = true) : 1 ≤ zs.length ∧ zs.length ≤ 5 := by have := vB_mem h; omega
/-- The lots that a seed draws out of a list; 'f' bounds the draws. -/
def lotL : Nat → List Int → Nat → List Int
  | 0, _, _ => []
  | f + 1, rest, seed => if rest.length = 0 then [] else rest[seed % rest.length]?.getD 0 :: lotL f (rest.eraseIdx (seed % rest.length)) (seed / rest.length)
theorem lotL_nil (f seed : Nat) : lotL f [] seed = [] := by cases f <;> rfl
theorem lotL_step (f : Nat) (rest : List Int) (seed : Nat) (h : rest.length ≠ 0) : lotL (f + 1) rest seed = rest[seed % rest.length]?.getD 0 :: lotL f (rest.eraseIdx (seed % rest.length)) (seed / rest.length) := by rw [lotL, if_neg h]
theorem lotL_length : ∀ (f : Nat) (rest : List Int) (seed : Nat), rest.length ≤ f → (lotL f rest seed).length = rest.length
  | 0, rest, seed, h => by simp [lotL]; omega
  | f + 1, rest, seed, h => by
    by_cases h0 : rest.length = 0
    · rw [List.length_eq_zero_iff.1 h0, lotL_nil]
    · have hm := Nat.mod_lt seed (show 0 < rest.length by omega)
      have he : (rest.eraseIdx (seed % rest.length)).length = rest.length - 1 := by rw [List.length_eraseIdx, if_pos hm]
      rw [lotL_step f rest seed h0, List.length_cons, lotL_length f _ _ (by omega), he]; omega
/-- All candidates in ascending order. -/
def fromZero (n : Nat) : List Int := (List.range n).map fun (i : Nat) => (i : Int)
theorem fromZero_length (n : Nat) : (fromZero n).length = n := by simp [fromZero]
theorem fromZero_succ (n : Nat) : fromZero (n + 1) = fromZero n ++ [(n : Int)] := by simp [fromZero, List.range_succ]
/-- What LotsOf returns for n candidates. -/
def lotsOf (n seed : Nat) : List Int := lotL n (fromZero n) seed
theorem lotsOf_length (n seed : Nat) : (lotsOf n seed).length = n := by rw [lotsOf, lotL_length _ _ _ (by rw [fromZero_length]; exact Nat.le_refl _), fromZero_length]
/-- The first of the lots for whom 'some' is true, or -1. -/
def pickL : List Int → List Bool → Int
  | [], _ => -1
  | z :: t, L => if L[z.toNat]?.getD false = true then z else pickL t L

end Go.Proofs.Ytgkakgibgfehaaa

namespace Go.Proofs.Ytgkakgibgfehaaa

/-- The greatest of the first k counts of some, or -1. -/
def bestS (c : List Int) (s : List Bool) (k : Nat) : Int := (List.range k).foldl (fun (b : Int) (i : Nat) => if s[i]?.getD false = true then max b (c[i]?.getD 0) else b) (-1)
theorem bestS_zero (c : List Int) (s : List Bool) : bestS c s 0 = -1 := rfl
theorem bestS_succ (c : List Int) (s : List Bool) (k : Nat) : bestS c s (k + 1) = if s[k]?.getD false = true then max (bestS c s k) (c[k]?.getD 0) else bestS c s k := by
  simp [bestS, List.range_succ]
theorem bestS_ge {c : List Int} {s : List Bool} {k i : Nat} (h : i < k) (hs : s[i]?.getD false = true) : c[i]?.getD 0 ≤ bestS c s k := by
  induction k with
  | zero => omega
  | succ k ih =>
    rw [bestS_succ]
    by_cases e : i = k
    · subst e; rw [if_pos hs]; omega
    · have := ih (by omega)
      split <;> omega
theorem bestS_hit (c : List Int) (s : List Bool) (k : Nat) : bestS c s k = -1 ∨ ∃ i, i < k ∧ s[i]?.getD false = true ∧ c[i]?.getD 0 = bestS c s k := by
  induction k with
  | zero => exact .inl rfl
  | succ k ih =>
    rw [bestS_succ]
    by_cases hs : s[k]?.getD false = true
    · rw [if_pos hs]
      rcases ih with ih | ⟨i, hi, h1, h2⟩
      · by_cases g : c[k]?.getD 0 ≤ -1
        · left; omega
        · right; exact ⟨k, by omega, hs, by omega⟩
      · by_cases g : c[k]?.getD 0 ≤ bestS c s k
        · right; exact ⟨i, by omega, h1, by omega⟩
        · right; exact ⟨k, by omega, hs, by omega⟩
    · rw [if_neg hs]
      rcases ih with ih | ⟨i, hi, h1, h2⟩
      · exact .inl ih
      · exact .inr ⟨i, by omega, h1, h2⟩
/-- Who has the greatest of some counts. -/
def mostL (c : List Int) (s : List Bool) : List Bool := (List.range c.length).map fun i => s[i]?.getD false && (c[i]?.getD 0 == bestS c s c.length)
theorem mostL_at {c : List Int} {s : List Bool} {i : Nat} (h : i < c.length) : (mostL c s)[i]?.getD false = true ↔ s[i]?.getD false = true ∧ c[i]?.getD 0 = bestS c s c.length := by
  simp [mostL, h]

/-- The first one of some in an order. -/
theorem pickL_spec {l : List Int} {L : List Bool} (h : ∃ z ∈ l, L[z.toNat]?.getD false = true) : pickL l L ∈ l ∧ L[(pickL l L).toNat]?.getD false = true ∧ ∀ u ∈ l, L[u.toNat]?.getD false = true → l.idxOf (pickL l L) ≤ l.idxOf u := by
  induction l with
  | nil => obtain ⟨z, hz, _⟩ := h; cases hz
  | cons a t ih =>
    unfold pickL
    by_cases ha : L[a.toNat]?.getD false = true
    · rw [if_pos ha]
      exact ⟨by simp, ha, fun u _ _ => by simp [List.idxOf_cons]⟩
    · rw [if_neg ha]
      obtain ⟨z, hz, hzL⟩ := h
      have hz' : z ∈ t := by
        rcases List.mem_cons.1 hz with e | e
        · subst e; exact absurd hzL ha
        · exact e
      obtain ⟨i1, i2, i3⟩ := ih ⟨z, hz', hzL⟩
      refine ⟨by simp [i1], i2, fun u hu huL => ?_⟩
      have hau : ¬ a = u := fun e => ha (by rw [e]; exact huL)
      have hap : ¬ a = pickL t L := fun e => ha (by rw [e]; exact i2)
      have hu' : u ∈ t := by
        rcases List.mem_cons.1 hu with e | e
        · exact absurd e.symm hau
        · exact e
      have := i3 u hu' huL
      rw [List.idxOf_cons, List.idxOf_cons]
      simp only [beq_eq_false_iff_ne.2 hau, beq_eq_false_iff_ne.2 hap, cond_false]
      omega

/-- **w has the greatest of some counts**, and comes first in the lots among those who have as many. -/
def IsWin (c : List Int) (s : List Bool) (lots : List Int) (w : Int) : Prop :=
  w ∈ lots ∧ s[w.toNat]?.getD false = true ∧ ∀ i ∈ lots, s[i.toNat]?.getD false = true → c[i.toNat]?.getD 0 < c[w.toNat]?.getD 0 ∨ (c[i.toNat]?.getD 0 = c[w.toNat]?.getD 0 ∧ lots.idxOf w ≤ lots.idxOf i)
theorem lots_mem {lots : List Int} (h : lotsB lots = true) {i : Nat} (hi : i < lots.length) : (i : Int) ∈ lots := by
  have hm := vB_mem h
  have hd := vB_nodup h
  by_cases e : (i : Int) ∈ lots
  · exact e
  · have hnd : ((i : Int) :: lots).Nodup := List.nodup_cons.2 ⟨e, hd⟩
    have := few_of lots.length ((i : Int) :: lots) hnd (fun z hz => by
      rcases List.mem_cons.1 hz with g | g
      · subst g; omega
      · exact hm.2.2 z g)
    simp at this
    omega
/-- **The pick is the one.** -/
theorem win_pick {c : List Int} {s : List Bool} {lots : List Int} (hl : lotsB lots = true) (hc : c.length = lots.length) (h0 : ∀ i, i < c.length → 0 ≤ c[i]?.getD 0) (hs : ∃ i, i < c.length ∧ s[i]?.getD false = true) : IsWin c s lots (pickL lots (mostL c s)) := by
  have hm := vB_mem hl
  have hN : ∀ z ∈ lots, z.toNat < c.length := fun z hz => by have := hm.2.2 z hz; omega
  obtain ⟨j, hj, hsj⟩ := hs
  have hb := bestS_hit c s c.length
  have hge := bestS_ge (c := c) hj hsj
  have h0j := h0 j hj
  rcases hb with hb | ⟨i, hi, h1, h2⟩
  · omega
  · obtain ⟨p1, p2, p3⟩ := pickL_spec (l := lots) (L := mostL c s) ⟨(i : Int), lots_mem hl (by omega), by rw [Int.toNat_natCast, mostL_at hi]; exact ⟨h1, h2⟩⟩
    have hp := (mostL_at (hN _ p1)).1 p2
    refine ⟨p1, hp.1, fun u hu hsu => ?_⟩
    have hg := bestS_ge (c := c) (hN u hu) hsu
    by_cases e : c[u.toNat]?.getD 0 = bestS c s c.length
    · exact .inr ⟨by omega, p3 u hu ((mostL_at (hN u hu)).2 ⟨hsu, e⟩)⟩
    · exact .inl (by omega)

/-! ### Two candidates exchanged. -/
end Go.Proofs.Ytgkakgibgfehaaa

namespace Go.Proofs.Ytgkakgibgfehaaa

/-- Nobody has left. -/
def noneL (n : Nat) : List Bool := List.replicate n false
def allL (n : Nat) : List Bool := List.replicate n true
theorem allL_at {n k : Nat} (h : k < n) : (allL n)[k]?.getD false = true := by
  unfold allL; rw [List.getElem?_replicate, if_pos h]; rfl
theorem noneL_length (n : Nat) : (noneL n).length = n := by simp [noneL]
def plurC (ps : List Pl) (n : Nat) : List Int := countsL ps (noneL n)
theorem plurC_length (ps : List Pl) (n : Nat) : (plurC ps n).length = n := by rw [plurC, countsL_length, noneL_length]
theorem plurC_low {ps : List Pl} (hp : ∀ p ∈ ps, 1 ≤ p.2) {n k : Nat} (hk : k < n) : 0 ≤ (plurC ps n)[k]?.getD 0 := counts_low (by rw [noneL_length]; exact hk) hp
/-- The winner. -/
def winL (ps : List Pl) (lots : List Int) : Int := pickL lots (mostL (plurC ps lots.length) (allL lots.length))
theorem win_is {ps : List Pl} {lots : List Int} (hl : lotsB lots = true) (hp : ∀ p ∈ ps, 1 ≤ p.2) : IsWin (plurC ps lots.length) (allL lots.length) lots (winL ps lots) := by
  have hn := lotsB_len hl
  refine win_pick hl (plurC_length _ _) (fun i hi => ?_) ⟨0, ?_, allL_at (by omega)⟩
  · rw [plurC_length] at hi
    exact plurC_low hp hi
  · rw [plurC_length]; omega
theorem winL_range {ps : List Pl} {lots : List Int} (hl : lotsB lots = true) (hp : ∀ p ∈ ps, 1 ≤ p.2) : 0 ≤ winL ps lots ∧ winL ps lots < (lots.length : Int) := (vB_mem hl).2.2 _ (win_is hl hp).1

/-- The greatest count of the first k others, or 0. -/
def nextTo (c : List Int) (w : Int) (k : Nat) : Int := (List.range k).foldl (fun (b : Int) (i : Nat) => if (i : Int) ≠ w then max b (c[i]?.getD 0) else b) 0
theorem nextTo_succ (c : List Int) (w : Int) (k : Nat) : nextTo c w (k + 1) = if (k : Int) ≠ w then max (nextTo c w k) (c[k]?.getD 0) else nextTo c w k := by
  simp [nextTo, List.range_succ]
theorem nextTo_low (c : List Int) (w : Int) (k : Nat) : 0 ≤ nextTo c w k := by
  induction k with
  | zero => exact Int.le_refl _
  | succ k ih => rw [nextTo_succ]; split <;> omega
theorem nextTo_ge {c : List Int} {w : Int} {k i : Nat} (h : i < k) (hw : (i : Int) ≠ w) : c[i]?.getD 0 ≤ nextTo c w k := by
  induction k with
  | zero => omega
  | succ k ih =>
    rw [nextTo_succ]
    by_cases e : i = k
    · subst e; rw [if_pos hw]; omega
    · have := ih (by omega)
      split <;> omega
theorem nextTo_hit (c : List Int) (w : Int) (k : Nat) : nextTo c w k = 0 ∨ ∃ i, i < k ∧ (i : Int) ≠ w ∧ c[i]?.getD 0 = nextTo c w k := by
  induction k with
  | zero => exact .inl rfl
  | succ k ih =>
    rw [nextTo_succ]
    by_cases hw : (k : Int) ≠ w
    · rw [if_pos hw]
      rcases ih with ih | ⟨i, hi, h1, h2⟩
      · by_cases g : c[k]?.getD 0 ≤ 0
        · left; omega
        · right; exact ⟨k, by omega, hw, by omega⟩
      · by_cases g : c[k]?.getD 0 ≤ nextTo c w k
        · right; exact ⟨i, by omega, h1, by omega⟩
        · right; exact ⟨k, by omega, hw, by omega⟩
    · rw [if_neg hw]
      rcases ih with ih | ⟨i, hi, h1, h2⟩
      · exact .inl ih
      · exact .inr ⟨i, by omega, h1, h2⟩
/-- The margin. -/
def marginL (ps : List Pl) (lots : List Int) : Int := (plurC ps lots.length)[(winL ps lots).toNat]?.getD 0 - nextTo (plurC ps lots.length) (winL ps lots) lots.length
/-- **A margin is how many ballots are more.** -/
theorem margin_is {ps : List Pl} {lots : List Int} (hl : lotsB lots = true) (hp : ∀ p ∈ ps, 1 ≤ p.2) :
    0 ≤ marginL ps lots ∧ (∀ i : Nat, i < lots.length → (i : Int) ≠ winL ps lots → marginL ps lots ≤ (plurC ps lots.length)[(winL ps lots).toNat]?.getD 0 - (plurC ps lots.length)[i]?.getD 0) ∧ ((lots.length = 1 ∧ marginL ps lots = (plurC ps lots.length)[(winL ps lots).toNat]?.getD 0) ∨ ∃ i : Nat, i < lots.length ∧ (i : Int) ≠ winL ps lots ∧ (plurC ps lots.length)[(winL ps lots).toNat]?.getD 0 - (plurC ps lots.length)[i]?.getD 0 = marginL ps lots) := by
  have h0 := win_is hl hp
  have hr := winL_range hl hp
  have hn := lotsB_len hl
  unfold marginL
  generalize winL ps lots = w at h0 hr
  have hw0 := plurC_low hp (n := lots.length) (k := w.toNat) (by omega)
  have hh := nextTo_hit (plurC ps lots.length) w lots.length
  have hlow := nextTo_low (plurC ps lots.length) w lots.length
  refine ⟨?_, fun i hi hw => ?_, ?_⟩
  · rcases hh with hh | ⟨i, hi, h1, h2⟩
    · omega
    · have := h0.2.2 (i : Int) (lots_mem hl hi) (allL_at (by omega))
      rw [Int.toNat_natCast] at this
      omega
  · have := nextTo_ge (c := plurC ps lots.length) hi hw
    omega
  · rcases hh with hh | ⟨i, hi, h1, h2⟩
    · by_cases e : lots.length = 1
      · exact .inl ⟨e, by omega⟩
      · right
        obtain ⟨i, hi, hw⟩ : ∃ i : Nat, i < lots.length ∧ (i : Int) ≠ w := by
          by_cases e0 : w = 0
          · exact ⟨1, by omega, by omega⟩
          · exact ⟨0, by omega, by omega⟩
        have a := plurC_low hp (n := lots.length) (k := i) hi
        have b := nextTo_ge (c := plurC ps lots.length) hi hw
        exact ⟨i, hi, hw, by omega⟩
    · exact .inr ⟨i, hi, h1, by omega⟩

end Go.Proofs.Ytgkakgibgfehaaa

namespace Go.Proofs.Ytgkakgibgfehaaa
open Go.RowKit

theorem Small.take {ps : List Pl} (h : Small ps) (k : Nat) : Small (ps.take k) := Small.of fun q hq => by
  obtain ⟨i, hi, e⟩ := List.mem_iff_getElem.1 (List.mem_of_mem_take hq)
  have := h i
  unfold tAt at this
  rw [← e]
  simpa [hi] using this
end Go.Proofs.Ytgkakgibgfehaaa

namespace Go.Proofs.Ytgkakgibgfehaaa

/-- The greatest of the first k + 1 counts. -/
def maxTo (c : List Int) : Nat → Int
  | 0 => c[0]?.getD 0
  | k + 1 => max (maxTo c k) (c[k + 1]?.getD 0)
theorem maxTo_zero (c : List Int) : maxTo c 0 = c[0]?.getD 0 := rfl
theorem maxTo_succ (c : List Int) (k : Nat) : maxTo c (k + 1) = max (maxTo c k) (c[k + 1]?.getD 0) := rfl
theorem best_all {c : List Int} {n : Nat} (h0 : ∀ i, i < n → 0 ≤ c[i]?.getD 0) : ∀ k, k < n → bestS c (allL n) (k + 1) = maxTo c k
  | 0, h => by
    have := h0 0 h
    rw [bestS_succ, bestS_zero, if_pos (allL_at h), maxTo_zero]; omega
  | k + 1, h => by
    have ih := best_all h0 k (by omega)
    rw [bestS_succ, ih, if_pos (allL_at h), maxTo_succ]
/-- Who has as many. -/
def eqTo (c : List Int) (m : Int) (n : Nat) : List Bool := (List.range n).map fun i => c[i]?.getD 0 == m
theorem eqTo_length (c : List Int) (m : Int) (n : Nat) : (eqTo c m n).length = n := by simp [eqTo]
theorem most_great {c : List Int} {n : Nat} (hc : c.length = n) (hn : 1 ≤ n) (h0 : ∀ i, i < n → 0 ≤ c[i]?.getD 0) : mostL c (allL n) = eqTo c (maxTo c (n - 1)) n := by
  unfold mostL eqTo
  rw [hc]
  have := best_all h0 (n - 1) (by omega)
  rw [show n - 1 + 1 = n by omega] at this
  rw [this]
  refine List.map_congr_left (fun i hi => ?_)
  rw [allL_at (List.mem_range.1 hi)]; rfl
end Go.Proofs.Ytgkakgibgfehaaa

namespace Go.Proofs.Ytgkakgibgfehaaa

/-- The lots that a seed draws of those that are left. -/
def lotR (rest : List Int) (seed : Nat) : List Int := lotL rest.length rest seed
theorem lotR_nil (seed : Nat) : lotR [] seed = [] := rfl
theorem lotR_step {rest : List Int} {m : Nat} (hm : rest.length = m) (h : m ≠ 0) (seed : Nat) : lotR rest seed = rest[seed % m]?.getD 0 :: lotR (rest.eraseIdx (seed % m)) (seed / m) := by
  subst hm
  obtain ⟨n, hn⟩ : ∃ n, rest.length = n + 1 := ⟨rest.length - 1, by omega⟩
  have hk := Nat.mod_lt seed (show 0 < rest.length by omega)
  have he : (rest.eraseIdx (seed % rest.length)).length = n := by rw [List.length_eraseIdx, if_pos hk]; omega
  unfold lotR
  rw [he]
  conv => lhs; rw [hn]
  rw [lotL_step n rest seed h]
theorem lotR_all (n seed : Nat) : lotR (fromZero n) seed = lotsOf n seed := by unfold lotR lotsOf; rw [fromZero_length]
theorem erase_length {rest : List Int} {m k : Nat} (hm : rest.length = m) (h : k < m) : (rest.eraseIdx k).length = m - 1 := by rw [List.length_eraseIdx, hm, if_pos h]

/-- The number of candidates and the seed are in range. -/
def okLots (n seed : Int) : Bool := inB n 1 5 && inB seed 0 999
/-- What LotsOf returns. -/
def lotsI (n seed : Int) : List Int := if okLots n seed = true then lotsOf n.toNat seed.toNat else []
theorem okLots_of {n seed : Int} (h : okLots n seed = true) : (1 ≤ n ∧ n ≤ 5) ∧ 0 ≤ seed ∧ seed ≤ 999 := by simpa [okLots, inB] using h
theorem lotsI_yes {n seed : Int} (h : okLots n seed = true) : lotsI n seed = lotsOf n.toNat seed.toNat := by rw [lotsI, if_pos h]
theorem lotsI_no {n seed : Int} (h : okLots n seed = false) : lotsI n seed = [] := by rw [lotsI, h]; rfl
theorem lotsI_short (n seed : Int) : (lotsI n seed).length ≤ 5 := by
  cases h : okLots n seed
  · rw [lotsI_no h]; simp
  · have := okLots_of h
    rw [lotsI_yes h, lotsOf_length]; omega
theorem lotsI_length {n seed : Int} (h : okLots n seed = true) : ((lotsI n seed).length : Int) = n := by
  have := okLots_of h
  rw [lotsI_yes h, lotsOf_length]; omega
/-- What LotsFirst returns. -/
def pickB (zs : List Int) (L : List Bool) : Int := if lotsB zs = true ∧ L.length = zs.length then pickL zs L else -1
theorem lotsB_mem {zs : List Int} (h : lotsB zs = true) : ∀ z ∈ zs, 0 ≤ z ∧ z < (zs.length : Int) := (vB_mem h).2.2
theorem inB_yes {x lo hi : Int} (h1 : lo ≤ x) (h2 : x ≤ hi) : inB x lo hi = true := by simp [inB]; omega
end Go.Proofs.Ytgkakgibgfehaaa

namespace Go.Proofs.Ytgkakgibgfehaaa
open Go.RowKit

/-- **impl.LotsValid**. -/
theorem implLots_any (a : Option Addr) (len cap : Nat) (zs : List Int) (w : World) (h : IsInts w a len cap zs) :
    Calls Tq.prog 65 #[.slice a len cap] w fun e w' => e = .returned (.bool (lotsB zs)) ∧ Below w.heap.size w w' := by
  have HV : Hid (validB zs (len : Int) = lotsB zs) := by unfold Hid lotsB; rw [h.1]
  have H := Lib.hid h; clear h
  go_enter Tq.func65, Tq.ntmps65
  go_wp2_with fail
  refine (implValid_any _ _ _ zs _ _ H.out).mono ?_
  rintro e w1 ⟨rfl, hb⟩
  go_wp2
  go_ret
  exact ⟨ret_bool HV.out, hb⟩

set_option maxHeartbeats 1000000 in
/-- **impl.LotsFirst**. -/
theorem implPick_any (a : Option Addr) (len cap : Nat) (zs : List Int) (a' : Option Addr) (len' cap' : Nat) (L : List Bool) (w : World) (h : IsInts w a len cap zs) (h' : IsBools w a' len' cap' L) :
    Calls Tq.prog 96 #[.slice a len cap, .slice a' len' cap'] w fun e w' => e = .returned (.int .i64 (pickB zs L)) ∧ Below w.heap.size w w' := by
  have hE : Hid (pickB zs L = if lotsB zs = true ∧ len' = len then pickL zs L else -1) := by unfold Hid pickB; rw [h.1, h'.1]
  have hm := h'.2.2.1
  have hm' := h.2.2.1
  have HL := Lib.hid h.1
  have H := Lib.hid h; clear h
  have H' := Lib.hid h'; clear h'
  cases hv : lotsB zs
  · have HV := Lib.hid hv
    go_enter Tq.func96, Tq.ntmps96
    go_wp2_with fail
    refine (implLots_any _ _ _ zs _ H.out).mono ?_
    rintro e w1 ⟨he, hb⟩
    rw [HV.out] at he
    subst he
    go_wp2
    go_ret
    refine ⟨ret_int ?_, hb⟩
    rw [hE.out, HV.out]; rfl
  · have HV := Lib.hid hv
    by_cases hll : len' = len
    · have HR : Hid (∀ z ∈ zs, 0 ≤ z ∧ z < (len' : Int)) := by intro z hz; have := lotsB_mem HV.out z hz; rw [HL.out] at this; omega
      subst hll
      have hne : ((len' : Int) != (len' : Int)) = false := by simp
      go_enter Tq.func96, Tq.ntmps96
      go_wp2_with fail
      refine (implLots_any _ _ _ zs _ H.out).mono ?_
      rintro e w1 ⟨he, hb⟩
      rw [HV.out] at he
      subst he
      have HB := Lib.hid hb
      obtain ⟨-, -, -, h4⟩ := H.out.below hb
      obtain ⟨-, -, -, g4⟩ := H'.out.below hb
      have H4 := Lib.hid h4; clear h4
      have G4 := Lib.hid g4; clear g4 hb
      go_wp2
      go_loop [19] (fun i => ∃ k : Nat, k ≤ len' ∧ i = .int .i64 k ∧ Hid (pickL zs L = pickL (zs.drop k) L)) (fun i => len' - (intOf i).toNat)
      case atStart => exact ⟨0, Nat.zero_le _, rfl, by simp [Hid]⟩
      case round =>
        obtain ⟨k, hk, rfl, hp⟩ := hrel
        by_cases hlt : k < len'
        · obtain ⟨b, o, rfl, hb, hc⟩ := H4.out (by omega)
          have hz := hc k hlt
          have hkz : k < zs.length := by rw [HL.out]; exact hlt
          have hr := HR.out (zs[k]?.getD 0) (by simp [hkz])
          obtain ⟨c, hcz⟩ := Int.eq_ofNat_of_zero_le hr.1
          obtain ⟨lb, lo, rfl, hlb, hlc⟩ := G4.out (by omega)
          have hcl : c < len' := by omega
          have hcell := hlc c hcl
          rw [hcz] at hz
          have HD := drop_cons zs k hkz
          rw [hcz] at HD
          have HD := Lib.hid HD
          clear hc hlc hr hcz hkz
          cases hLc : L[c]?.getD false
          · have HLc := Lib.hid hLc
            rw [hLc] at hcell
            clear hLc
            go_wp2
            go_round
            case rel =>
              refine ⟨k + 1, by omega, by go_num, ?_⟩
              unfold Hid
              rw [hp.out, HD.out, pickL, if_neg (by rw [Int.toNat_natCast, HLc.out]; simp)]
            case measure => simp [intOf]; omega
          · have HLc := Lib.hid hLc
            rw [hLc] at hcell
            clear hLc
            go_wp2
            go_ret
            refine ⟨ret_int ?_, HB.out⟩
            rw [hE.out, if_pos (by simp [HV.out]), hp.out, HD.out, pickL, if_pos (by rw [Int.toNat_natCast]; exact HLc.out)]
        · obtain rfl : k = len' := by omega
          go_wp2
          go_ret
          refine ⟨ret_int ?_, HB.out⟩
          rw [hE.out, if_pos (by simp [HV.out]), hp.out, List.drop_of_length_le (by rw [HL.out]; omega)]; rfl
    · have hll2 : ¬ (len' : Int) = (len : Int) := by omega
      have hll3 : ((len' : Int) != (len : Int)) = true := by simpa using hll2
      go_enter Tq.func96, Tq.ntmps96
      go_wp2_with fail
      refine (implLots_any _ _ _ zs _ H.out).mono ?_
      rintro e w1 ⟨he, hb⟩
      rw [HV.out] at he
      subst he
      go_wp2
      go_ret
      refine ⟨ret_int ?_, hb⟩
      rw [hE.out, if_neg (fun e => hll e.2)]

end Go.Proofs.Ytgkakgibgfehaaa

namespace Go.Proofs.Ytgkakgibgfehaaa
open Go.RowKit

attribute [local go_sem] Oper.semAt_some

theorem bool_info9 : (Tq.prog.info? 4).map (fun i => (i.zero, i.size, i.bytes)) = some (some (.bool false), 1, 1) := by kernel_rfl

set_option maxRecDepth 100000 in
set_option maxHeartbeats 2000000 in
/-- **slices.Max**. -/
theorem slicesMax_as (a : Option Addr) (len cap : Nat) (zs : List Int) (w : World) (h : IsInts w a len cap zs) (hp : 0 < len) (m : Int) (hm : maxTo zs (len - 1) = m) :
    Calls Tq.prog 66 #[.slice a len cap] w fun e w' => e = .returned (.int .i64 m) ∧ w = w' := by
  obtain ⟨h1, h2, h3, h4⟩ := h
  obtain ⟨b, off, rfl, hb, hc⟩ := h4 hp
  have HC := Lib.hid hc
  have HM := Lib.hid hm
  have c0 := hc 0 hp
  rw [Nat.add_zero] at c0
  obtain ⟨z0, hz0⟩ : ∃ z0, zs[0]?.getD 0 = z0 := ⟨_, rfl⟩
  rw [hz0] at c0
  have HZ0 : Hid (maxTo zs 0 = z0) := hz0
  have hlt1 : decide ((len : Int) < 1) = false := decide_eq_false (by omega)
  have hlt2 : decide (len = 0) = false := decide_eq_false (by omega)
  have hlt3 : ¬ len = 0 := by omega
  have hpi : (0 : Int) < (len : Int) := by omega
  clear hc h4 hm hz0 h1
  go_enter Tq.func66, Tq.ntmps66
  go_wp2
  go_loop [3, 4] (fun mv iv => ∃ (i : Nat) (x : Int), 1 ≤ i ∧ i ≤ len ∧ iv = .int .i64 (i : Int) ∧ mv = .int .i64 x ∧ Hid (maxTo zs (i - 1) = x)) (fun _ iv => len - (intOf iv).toNat)
  case atStart => exact ⟨1, z0, Nat.le_refl _, hp, rfl, rfl, HZ0⟩
  case round =>
    clear HZ0 c0
    obtain ⟨i, x, hi1, hil, rfl, rfl, hx⟩ := hrel
    by_cases hlt : i < len
    · have ci := HC.out i hlt
      obtain ⟨z, hz⟩ : ∃ z, zs[i]?.getD 0 = z := ⟨_, rfl⟩
      rw [hz] at ci
      have HX : Hid (maxTo zs i = max x z) := by
        obtain ⟨k, rfl⟩ : ∃ k, i = k + 1 := ⟨i - 1, by omega⟩
        have := hx.out
        rw [Nat.add_sub_cancel] at this
        rw [Hid, maxTo_succ, this, hz]
      clear hz
      by_cases hxz : x < z
      · have HX2 : Hid (maxTo zs (i + 1 - 1) = z) := by rw [Nat.add_sub_cancel, Hid, HX.out]; omega
        go_wp2
        go_round
        case rel => exact ⟨i + 1, z, by omega, by omega, by go_num, by first | rfl | (congr 1; omega), HX2⟩
        case measure => simp [intOf]; omega
      · have HX2 : Hid (maxTo zs (i + 1 - 1) = x) := by rw [Nat.add_sub_cancel, Hid, HX.out]; omega
        go_wp2
        go_round
        case rel => exact ⟨i + 1, x, by omega, by omega, by go_num, by first | rfl | (congr 1; omega), HX2⟩
        case measure => simp [intOf]; omega
    · obtain rfl : i = len := by omega
      go_wp2
      go_ret
      exact ⟨ret_int (by rw [← HM.out, hx.out]), rfl⟩

theorem eqTo_next (c : List Int) (m : Int) (n k : Nat) : ((List.range n).map fun i => Value.bool (decide (i < k) && (c[i]?.getD 0 == m))).set k (.bool (c[k]?.getD 0 == m)) = (List.range n).map fun i => Value.bool (decide (i < k + 1) && (c[i]?.getD 0 == m)) := by
  refine List.ext_getElem (by simp) (fun i h1 h2 => ?_)
  by_cases e : k = i
  · subst e; simp
  · rw [List.getElem_set_ne e]
    simp only [List.getElem_map, List.getElem_range]
    by_cases g : i < k
    · rw [decide_eq_true g, decide_eq_true (by omega : i < k + 1)]
    · rw [decide_eq_false g, decide_eq_false (by omega : ¬ i < k + 1)]
theorem falses_made (n : Nat) (f : Nat → Bool) : (madeCells (Value.bool false).cells (n * 1)).toList = (List.range n).map fun i => Value.bool (decide (i < 0) && f i) := by
  rw [show (Value.bool false).cells = #[.bool false] from rfl, toList_madeCells_one, Nat.mul_one]
  refine List.ext_getElem (by simp) (fun i h1 h2 => ?_)
  simp
theorem bools_owned {w : World} {base g n c : Nat} {f : Nat → Bool} (h : w.ownsRow base 4 1 (.slice (some ⟨g, 0, none⟩) n c) n ((List.range n).map fun i => Value.bool (f i))) (hn : n ≤ 1048600) (hc : n ≤ c) : IsBools w (some ⟨g, 0, none⟩) n c ((List.range n).map f) := by
  refine ⟨by simp, hc, hn, fun hp => ⟨g, 0, rfl, (h.lt g rfl).2, fun j hj => ?_⟩⟩
  rw [Nat.zero_add, h.cellAt j (by omega)]
  simp [hj]

set_option maxRecDepth 100000 in
set_option maxHeartbeats 2000000 in
/-- **greatestCount**. -/
theorem great_as (a : Option Addr) (n cap : Nat) (cs : List Int) (a' : Option Addr) (cap' : Nat) (lots : List Int) (w : World) (h : IsInts w a n cap cs) (h' : IsInts w a' n cap' lots) (hl : lotsB lots = true) (h0 : ∀ i, i < n → 0 ≤ cs[i]?.getD 0) (r : Int) (hr : pickL lots (mostL cs (allL n)) = r) :
    Calls Tq.prog 58 #[.slice a n cap, .slice a' n cap'] w fun e w' => e = .returned (.int .i64 r) ∧ Below w.heap.size w w' := by
  obtain ⟨i0, hi, hz0, hz1, hz2⟩ := info_parts bool_info9
  have hlen := h'.1
  have hn := lotsB_len hl
  rw [hlen] at hn
  have hcs := h.1
  obtain ⟨m, hm⟩ : ∃ m, maxTo cs (n - 1) = m := ⟨_, rfl⟩
  have HR : Hid (pickB lots (eqTo cs m n) = r) := by
    rw [Hid, pickB, if_pos ⟨hl, by rw [eqTo_length, hlen]⟩, ← hr, most_great hcs hn.1 h0, hm]
  have H := Lib.hid h
  have H' := Lib.hid h'
  have HM := Lib.hid hm
  clear h h' hr hm h0 hcs hlen
  go_enter Tq.func58, Tq.ntmps58
  go_wp2_with fail
  refine (slicesMax_as _ _ _ cs _ H.out (by omega) m HM.out).mono ?_
  rintro e w1 ⟨rfl, rfl⟩
  obtain ⟨g, hg⟩ : ∃ g, w.heap.size = g := ⟨_, rfl⟩
  go_wp2_with (at_make; refine wpList_make_full _ rfl _ _ 24 rfl w.heap.size 4 i0 (.bool false) 1 Tq.underlying24 hi hz0 hz1 .i64 .i64 _ _ n rfl rfl rfl rfl (by rw [hz2]; omega) (by unfold maxLen; omega) (Nat.le_refl _) ?_; intro w2 hown hgrow)
  have hb2 : Below g w w2 := hg ▸ (Below.refl _ w).grown hgrow (Nat.le_refl _) (fun k e => by cases e)
  rw [hg, falses_made n (fun i => cs[i]?.getD 0 == m)] at hown
  have O2 := Lib.hid hown
  have HG := Lib.hid hg
  clear hown hgrow hg hi hz0 hz1 hz2
  go_wp2
  go_loopw [7, 8, 16] (fun _ _ iv wr => ∃ i : Nat, i ≤ n ∧ iv = .int .i64 (i : Int) ∧ Hid (wr.ownsRow g 4 1 (.slice (some ⟨g, 0, none⟩) n n) n ((List.range n).map fun k => Value.bool (decide (k < i) && (cs[k]?.getD 0 == m)))) ∧ Below g w wr) (fun _ _ iv _ => n - (intOf iv).toNat)
  case atStart => exact ⟨0, Nat.zero_le _, rfl, O2, hb2⟩
  case round =>
    clear O2 hb2
    obtain ⟨i, hin, rfl, hO, hB⟩ := hrel
    have hBw : Below w.heap.size w wr := HG.out.symm ▸ hB
    by_cases hlt : i < n
    · obtain ⟨b, off, rfl, hb, hc⟩ := (H.out.below hBw).2.2.2 (by omega)
      have ci := hc i hlt
      obtain ⟨z, hz⟩ : ∃ z, cs[i]?.getD 0 = z := ⟨_, rfl⟩
      obtain ⟨v, hv⟩ : ∃ v, (z == m) = v := ⟨_, rfl⟩
      rw [hz] at ci
      have hst := (hO.out.stored i (.bool v)).1
      have O3 : Hid ((wr.setCell ⟨g, i, none⟩ (.bool v)).ownsRow g 4 1 (.slice (some ⟨g, 0, none⟩) n n) n ((List.range n).map fun k => Value.bool (decide (k < i + 1) && (cs[k]?.getD 0 == m)))) := by
        rw [Hid, ← eqTo_next cs m n i, hz, hv]; exact hst
      have hgc : wr.cell? ⟨g, i, none⟩ = some (.bool (decide (i < i) && (z == m))) := by
        rw [hO.out.cellAt i (by omega)]; simp [hlt, hz]
      have hfz := hO.out.frozenAt i
      have B3 : Below g w (wr.setCell ⟨g, i, none⟩ (.bool v)) := hB.setCell (p := ⟨g, i, none⟩) (Nat.le_refl _) _
      clear hc hst hO hB hBw hz
      go_wp2
      go_roundw
      case rel => exact ⟨i + 1, by omega, by go_num, O3, B3⟩
      case measure => simp [intOf]; omega
    · obtain rfl : i = n := by omega
      have J : Hid (IsBools wr (some ⟨g, 0, none⟩) i i (eqTo cs m i)) := by
        have h1 := bools_owned hO.out (by omega) (Nat.le_refl _)
        have h2 : ((List.range i).map fun k => decide (k < i) && (cs[k]?.getD 0 == m)) = eqTo cs m i := by
          unfold eqTo
          refine List.map_congr_left (fun k hk => ?_)
          rw [decide_eq_true (List.mem_range.1 hk), Bool.true_and]
        rw [h2] at h1; exact h1
      have K := Lib.hid (H'.out.below hBw)
      clear hO
      go_wp2_with fail
      refine (implPick_any _ _ _ lots _ _ _ (eqTo cs m i) _ K.out J.out).mono ?_
      rw [HR.out]
      rintro e w5 ⟨rfl, hb5⟩
      go_wp2
      go_ret
      exact ⟨rfl, hBw.trans (hb5.mono hBw.size)⟩

end Go.Proofs.Ytgkakgibgfehaaa

namespace Go.Proofs.Ytgkakgibgfehaaa
open Go.RowKit

theorem lotsB_eq {zs : List Int} {len : Nat} (h : zs.length = len) (hl : len ≤ 1048600) : lotsB zs = (goodTo zs ((len : Int) - 1) len && inB (len : Int) 1 5) := by
  unfold lotsB validB
  rw [h, IntWalk.wrap64_in _ ⟨by omega, by omega⟩]

set_option maxHeartbeats 400000 in
/-- **spec.LotsValid**. -/
theorem specLots_any (a : Option Addr) (len cap : Nat) (zs : List Int) (w : World) (h : IsInts w a len cap zs) :
    Calls Tq.prog 59 #[.slice a len cap] w fun e w' => e = .returned (.bool (lotsB zs)) ∧ Dr w w' := by
  have hl := h.2.2.1
  have HV := Lib.hid (lotsB_eq h.1 hl)
  have H := Lib.hid h; clear h
  go_enter Tq.func59, Tq.ntmps59
  go_wp2
  go_loopw [3] (fun i wr => ∃ k : Nat, k ≤ len ∧ i = .int .i64 k ∧ Hid (goodTo zs ((len : Int) - 1) k = true) ∧ Dr w wr) (fun i _ => len - (intOf i).toNat)
  case atStart => exact ⟨0, Nat.zero_le _, rfl, by simp [Hid, goodTo], Dr.refl _⟩
  case round =>
    obtain ⟨k, hk, rfl, hc, hd⟩ := hrel
    by_cases hlt : k < len
    · have HI := H.out.dr hd
      have HK := HI.take hk
      obtain ⟨h1, h2, h3, h4⟩ := HI
      obtain ⟨b, off, rfl, hb, hcell⟩ := h4 (by omega)
      have hck := hcell k hlt
      have HS := goodTo_succ zs ((len : Int) - 1) k
      rw [hc.out, Bool.true_and] at HS
      have HS := Lib.hid HS
      clear h1 h4 hcell
      by_cases hin : inB (zs[k]?.getD 0) 0 ((len : Int) - 1) = true
      · cases hh : hasB (zs.take k) (zs[k]?.getD 0)
        all_goals
          go_wp2
          go_quiet (first | (go_at_call 63; exact quiet_same (l6In_any _ _ _ _)) | (go_at_call 97; exact quiet_same (l1Has_any _ _ _ _ _ _ (HK.drewN _))))
          go_wp2
        · go_roundw
          case rel => exact ⟨k + 1, by omega, by go_num, by unfold Hid; rw [HS.out, hin, hh]; rfl, hd.drewN _⟩
          case measure => simp [intOf]; omega
        · go_ret
          refine ⟨ret_bool ?_, hd.drewN _⟩
          rw [HV.out, goodTo_no (by rw [HS.out, hin, hh]; rfl) hlt]; rfl
      · have hin' : inB (zs[k]?.getD 0) 0 ((len : Int) - 1) = false := by simpa using hin
        clear hin
        go_wp2
        go_quiet (first | (go_at_call 63; exact quiet_same (l6In_any _ _ _ _)) | (go_at_call 97; exact quiet_same (l1Has_any _ _ _ _ _ _ (HK.drewN _))))
        go_wp2
        go_ret
        refine ⟨ret_bool ?_, hd.drewN _⟩
        rw [HV.out, goodTo_no (by rw [HS.out, hin']; rfl) hlt]; rfl
    · obtain rfl : k = len := by omega
      go_wp2_with (go_at_call 63; refine (l6In_any _ _ _ _).mono ?_; rintro e w' ⟨rfl, rfl⟩)
      go_ret
      refine ⟨ret_bool ?_, hd⟩
      rw [HV.out, hc.out, Bool.true_and]

set_option maxHeartbeats 1000000 in
theorem l4First_any (a : Option Addr) (len cap : Nat) (zs : List Int) (a' : Option Addr) (len' cap' : Nat) (L : List Bool) (w : World) (h : IsInts w a len cap zs) (h' : IsBools w a' len' cap' L) (hr : ∀ z ∈ zs, 0 ≤ z ∧ z < (len' : Int)) :
    Calls Tq.prog 69 #[.slice a len cap, .slice a' len' cap'] w fun e w' => e = .returned (.int .i64 (pickL zs L)) ∧ w = w' := by
  obtain ⟨h1, h2, h3, h4⟩ := h
  obtain ⟨g1, g2, g3, g4⟩ := h'
  have H1 := Lib.hid h1; clear h1
  have H4 := Lib.hid h4; clear h4
  have G4 := Lib.hid g4; clear g4 g1
  have HR := Lib.hid hr; clear hr
  go_enter Tq.func69, Tq.ntmps69
  go_wp2
  go_loop [5] (fun i => ∃ k : Nat, k ≤ len ∧ i = .int .i64 k ∧ Hid (pickL zs L = pickL (zs.drop k) L)) (fun i => len - (intOf i).toNat)
  case atStart => exact ⟨0, Nat.zero_le _, rfl, by simp [Hid]⟩
  case round =>
    obtain ⟨k, hk, rfl, hp⟩ := hrel
    by_cases hlt : k < len
    · obtain ⟨b, o, rfl, hb, hc⟩ := H4.out (by omega)
      have hz := hc k hlt
      have hkz : k < zs.length := by rw [H1.out]; exact hlt
      have hr := HR.out (zs[k]?.getD 0) (by simp [hkz])
      obtain ⟨c, hcz⟩ := Int.eq_ofNat_of_zero_le hr.1
      obtain ⟨lb, lo, rfl, hlb, hlc⟩ := G4.out (by omega)
      have hcl : c < len' := by omega
      have hcell := hlc c hcl
      rw [hcz] at hz
      have HD : zs.drop k = (c : Int) :: zs.drop (k + 1) := by
        rw [List.drop_eq_getElem_cons hkz, ← hcz]; simp [hkz]
      have HD := Lib.hid HD
      clear hc hlc hr hcz hkz
      cases hL : L[c]?.getD false
      · have HL := Lib.hid hL
        go_wp2
        go_round
        case rel =>
          refine ⟨k + 1, by omega, by go_num, ?_⟩
          unfold Hid
          rw [hp.out, HD.out, pickL, if_neg (by rw [Int.toNat_natCast, HL.out]; simp)]
        case measure => simp [intOf]; omega
      · have HL := Lib.hid hL
        go_wp2
        go_ret
        refine ⟨ret_int ?_, rfl⟩
        rw [hp.out, HD.out, pickL, if_pos (by rw [Int.toNat_natCast]; exact HL.out)]
    · obtain rfl : k = len := by omega
      go_wp2
      go_ret
      refine ⟨ret_int ?_, rfl⟩
      rw [hp.out, List.drop_of_length_le (by rw [H1.out]; omega)]; rfl

end Go.Proofs.Ytgkakgibgfehaaa

namespace Go.Proofs.Ytgkakgibgfehaaa
open Go.RowKit

/-- **impl.LotsValid**, its answer named. -/
theorem implLots_as (a : Option Addr) (len cap : Nat) (zs : List Int) (v : Bool) (w : World) (h : IsInts w a len cap zs) (hv : lotsB zs = v) :
    Calls Tq.prog 65 #[.slice a len cap] w fun e w' => e = .returned (.bool v) ∧ Below w.heap.size w w' := by
  subst hv; exact implLots_any a len cap zs w h
/-- **spec.LotsValid**, its answer named. -/
theorem specLots_as (a : Option Addr) (len cap : Nat) (zs : List Int) (v : Bool) (w : World) (h : IsInts w a len cap zs) (hv : lotsB zs = v) :
    Calls Tq.prog 59 #[.slice a len cap] w fun e w' => e = .returned (.bool v) ∧ Dr w w' := by
  subst hv; exact specLots_any a len cap zs w h

end Go.Proofs.Ytgkakgibgfehaaa

namespace Go.Proofs.Ytgkakgibgfehaaa
open Go.RowKit

attribute [local go_sem] Oper.semAt_some

/-- What PluralityWinner and PluralityMargin tell. -/
def plOk (ps : List Pl) (lots : List Int) : Bool := lotsB lots && fitsB ps (lots.length : Int)
theorem plOk_iff (ps : List Pl) (lots : List Int) : plOk ps lots = true ↔ lotsB lots = true ∧ fitsB ps (lots.length : Int) = true := by simp [plOk]
def plWin (ps : List Pl) (lots : List Int) : Int := if plOk ps lots = true then winL ps lots else -1
def plMar (ps : List Pl) (lots : List Int) : Int := if plOk ps lots = true then marginL ps lots else -1
theorem plurC_counts (ps : List Pl) (n : Nat) : plurC ps n = countsL ps (noneL n) := rfl
theorem noneL_len (n : Nat) : (noneL n).length = n := by simp [noneL]
theorem nones_made (n : Nat) : (madeCells (Value.bool false).cells (n * 1)).toList = (noneL n).map Value.bool := by
  rw [show (Value.bool false).cells = #[.bool false] from rfl, toList_madeCells_one]; simp [noneL]
theorem bool_infoP : (Tq.prog.info? 4).map (fun i => (i.zero, i.size, i.bytes)) = some (some (.bool false), 1, 1) := by kernel_rfl
theorem nones_own {w : World} {base g n c : Nat} (h : w.ownsRow base 4 1 (.slice (some ⟨g, 0, none⟩) n c) n ((noneL n).map Value.bool)) (hn : n ≤ 1048600) (hc : n ≤ c) : IsBools w (some ⟨g, 0, none⟩) n c (noneL n) := by
  refine ⟨noneL_len n, hc, hn, fun hp => ⟨g, 0, rfl, (h.lt g rfl).2, fun j hj => ?_⟩⟩
  rw [Nat.zero_add, h.cellAt j (by omega)]
  simp [noneL, hj]
theorem plur_low {ps : List Pl} {n : Nat} (h : fitsB ps (n : Int) = true) (i : Nat) : 0 ≤ (plurC ps n)[i]?.getD 0 ∧ (plurC ps n)[i]?.getD 0 ≤ 5940 := by
  rw [plurC_counts]
  have h' : fitsB ps ((noneL n).length : Int) = true := by rw [noneL_len]; exact h
  exact (fst_facts h').2.2.1 i
theorem win_in {ps : List Pl} {lots : List Int} (h : plOk ps lots = true) : 0 ≤ winL ps lots ∧ winL ps lots < (lots.length : Int) ∧ 1 ≤ lots.length ∧ lots.length ≤ 5 := by
  obtain ⟨h1, h2⟩ := (plOk_iff _ _).1 h
  have hp := (pilesB_pos (fits_parts h2).1).2.1
  have hr := winL_range h1 hp
  have hn := lotsB_len h1
  omega

set_option maxRecDepth 100000 in
set_option maxHeartbeats 2000000 in
/-- **pluralityCounts**. -/
theorem plurCounts_as (pa : Option Addr) (l ca : Nat) (ps : List Pl) (al : Option Addr) (n cl : Nat) (lots : List Int) (v : Bool) (zs : List Int) (w : World) (hps : IsPiles w pa l ca ps) (hsm : Small ps) (hl : IsInts w al n cl lots) (hv : plOk ps lots = v) (hz : (if v then plurC ps n else []) = zs) :
    Calls Tq.prog 57 #[.slice pa l ca, .slice al n cl] w fun e w' => ∃ a c, e = .returned (.tuple #[.slice a zs.length c, .bool v]) ∧ IsInts w' a zs.length c zs ∧ Below w.heap.size w w' := by
  have HP := Lib.hid hps
  have HI := Lib.hid hl
  have hn := hl.1
  cases h1 : lotsB lots
  · have e : v = false := by rw [← hv]; unfold plOk; rw [h1]; rfl
    subst e
    have e2 : zs = [] := by rw [← hz]; rfl
    subst e2
    have V1 := Lib.hid h1
    clear hps hl hv hz h1 hn
    go_enter Tq.func57, Tq.ntmps57
    go_wp2_with fail
    refine (implLots_as _ _ _ lots false _ HI.out V1.out).mono ?_
    rintro e w1 ⟨rfl, hd⟩
    go_wp2
    go_ret2
    exact ⟨none, 0, rfl, ⟨rfl, Nat.le_refl _, Nat.zero_le _, fun h => absurd h (by simp)⟩, hd⟩
  · have hn5 := lotsB_len h1
    rw [hn] at hn5
    obtain ⟨i0, hi, hz0, hz1, hz2⟩ := info_parts bool_infoP
    have V1 := Lib.hid h1
    have HFV : Hid (fitsB ps (n : Int) = v) := by rw [Hid, ← hv, ← hn]; unfold plOk; rw [h1]; rfl
    have HZ : Hid ((if v then countsL ps (noneL n) else []) = zs) := by rw [Hid, ← hz]; rfl
    have HSM := Lib.hid hsm
    clear hps hl hv hz h1 hn
    go_enter Tq.func57, Tq.ntmps57
    go_wp2_with fail
    refine (implLots_as _ _ _ lots true _ HI.out V1.out).mono ?_
    rintro e w1 ⟨rfl, hd⟩
    have HP := Lib.hid (HP.out.below hd)
    have B1 := Lib.hid hd
    clear hd
    go_wp2_with (at_make; refine wpList_make_full _ rfl _ _ 24 rfl w1.heap.size 4 i0 (.bool false) 1 Tq.underlying24 hi hz0 hz1 .i64 .i64 _ _ n rfl rfl rfl rfl (by rw [hz2]; omega) (by unfold maxLen; omega) (Nat.le_refl _) ?_; intro w2 hown hgrow; have hb2 : Below w1.heap.size w1 w2 := (Below.refl _ w1).grown hgrow (Nat.le_refl _) (fun k e => by cases e); rw [nones_made] at hown; have J := Lib.hid (nones_own hown (by omega) (Nat.le_refl _)); have HP := Lib.hid (HP.out.below hb2); have B2 := Lib.hid (B1.out.trans (hb2.mono B1.out.size)); clear hown hgrow hb2)
    refine (implCounts_to _ _ _ ps _ n n (noneL n) v zs _ HP.out HSM.out J.out HFV.out HZ.out).mono ?_
    rintro e w3 ⟨a, c, rfl, hi3, hb⟩
    have I3 := Lib.hid hi3
    have B3 := Lib.hid (B2.out.trans (hb.mono B2.out.size))
    clear hi3 hb
    go_wp2
    go_ret2
    exact ⟨a, c, rfl, I3.out, B3.out⟩

set_option maxRecDepth 100000 in
set_option maxHeartbeats 2000000 in
/-- **impl.PluralityWinner**. -/
theorem implPlur_as (pa : Option Addr) (l ca : Nat) (ps : List Pl) (al : Option Addr) (n cl : Nat) (lots : List Int) (r : Int) (w : World) (hps : IsPiles w pa l ca ps) (hsm : Small ps) (hl : IsInts w al n cl lots) (hr : plWin ps lots = r) :
    Calls Tq.prog 21 #[.slice pa l ca, .slice al n cl] w fun e w' => e = .returned (.int .i64 r) ∧ Below w.heap.size w w' := by
  have HP := Lib.hid hps
  have HI := Lib.hid hl
  have HSM := Lib.hid hsm
  have hn := hl.1
  cases hk : plOk ps lots
  · have e : r = -1 := by rw [← hr, plWin, if_neg (by rw [hk]; decide)]
    subst e
    have HK := Lib.hid hk
    clear hps hl hr hk hn
    go_enter Tq.func21, Tq.ntmps21
    go_wp2_with fail
    refine (plurCounts_as _ _ _ ps _ n cl lots false [] _ HP.out HSM.out HI.out HK.out rfl).mono ?_
    rintro e w1 ⟨a, c, rfl, -, hb⟩
    go_wp2
    go_ret
    exact ⟨rfl, hb⟩
  · have e : winL ps lots = r := by rw [← hr, plWin, if_pos hk]
    obtain ⟨h1, h2⟩ := (plOk_iff _ _).1 hk
    rw [hn] at h2
    have HW : Hid (pickL lots (mostL (plurC ps n) (allL n)) = r) := by rw [Hid, ← e, ← hn]; rfl
    have HK := Lib.hid hk
    have HL := Lib.hid h1
    have HF := Lib.hid h2
    have hpl : (plurC ps n).length = n := plurC_length _ _
    obtain ⟨zs, hzs⟩ : ∃ zs, plurC ps n = zs := ⟨_, rfl⟩
    have HLO : Hid (∀ i, i < n → 0 ≤ zs[i]?.getD 0) := fun i hi => by rw [← hzs]; exact (plur_low HF.out i).1
    rw [hzs] at HW hpl
    have HZ : Hid ((if true = true then plurC ps n else []) = zs) := hzs
    clear hps hl hr hk hn h1 h2 e hzs
    go_enter Tq.func21, Tq.ntmps21
    go_wp2_with fail
    refine (plurCounts_as _ _ _ ps _ n cl lots true zs _ HP.out HSM.out HI.out HK.out HZ.out).mono ?_
    rintro e w1 ⟨a, c, rfl, hi3, hb⟩
    rw [hpl] at hi3 ⊢
    have I1 := Lib.hid hi3
    have IL := Lib.hid (HI.out.below hb)
    have B1 := Lib.hid hb
    clear hi3 hb
    go_wp2_with fail
    refine (great_as _ n _ zs _ cl lots _ I1.out IL.out HL.out HLO.out r HW.out).mono ?_
    rintro e w2 ⟨rfl, hb⟩
    go_wp2
    go_ret
    exact ⟨rfl, B1.out.trans (hb.mono B1.out.size)⟩

theorem nextTo_top {c : List Int} {w : Int} {m : Int} (h : ∀ i : Nat, c[i]?.getD 0 ≤ m) (hm : 0 ≤ m) (k : Nat) : nextTo c w k ≤ m := by
  induction k with
  | zero => exact hm
  | succ k ih => rw [nextTo_succ]; split <;> (have := h k; omega)

set_option maxRecDepth 100000 in
set_option maxHeartbeats 2000000 in
/-- **impl.PluralityMargin**. -/
theorem implMar_as (pa : Option Addr) (l ca : Nat) (ps : List Pl) (al : Option Addr) (n cl : Nat) (lots : List Int) (r : Int) (w : World) (hps : IsPiles w pa l ca ps) (hsm : Small ps) (hl : IsInts w al n cl lots) (hr : plMar ps lots = r) :
    Calls Tq.prog 25 #[.slice pa l ca, .slice al n cl] w fun e w' => e = .returned (.int .i64 r) ∧ Below w.heap.size w w' := by
  have HP := Lib.hid hps
  have HI := Lib.hid hl
  have HSM := Lib.hid hsm
  have hn := hl.1
  cases hk : plOk ps lots
  · have e : r = -1 := by rw [← hr, plMar, if_neg (by rw [hk]; decide)]
    subst e
    have HK := Lib.hid hk
    clear hps hl hr hk hn
    go_enter Tq.func25, Tq.ntmps25
    go_wp2_with fail
    refine (plurCounts_as _ _ _ ps _ n cl lots false [] _ HP.out HSM.out HI.out HK.out rfl).mono ?_
    rintro e w1 ⟨a, c, rfl, -, hb⟩
    go_wp2
    go_ret
    exact ⟨rfl, hb⟩
  · have e : marginL ps lots = r := by rw [← hr, plMar, if_pos hk]
    have hwr := win_in hk
    obtain ⟨h1, h2⟩ := (plOk_iff _ _).1 hk
    rw [hn] at h2 hwr
    have hpl : (plurC ps n).length = n := plurC_length _ _
    unfold marginL at e
    rw [hn] at e
    obtain ⟨q, hq⟩ : ∃ q, winL ps lots = q := ⟨_, rfl⟩
    have HW : Hid (pickL lots (mostL (plurC ps n) (allL n)) = q) := by rw [Hid, ← hq, ← hn]; rfl
    rw [hq] at hwr e
    have HK := Lib.hid hk
    have HL := Lib.hid h1
    have HLB : Hid (∀ i : Nat, 0 ≤ (plurC ps n)[i]?.getD 0 ∧ (plurC ps n)[i]?.getD 0 ≤ 5940) := fun i => plur_low h2 i
    obtain ⟨zs, hzs⟩ : ∃ zs, plurC ps n = zs := ⟨_, rfl⟩
    rw [hzs] at HW hpl HLB e
    have HE := Lib.hid e
    have HZ : Hid ((if true = true then plurC ps n else []) = zs) := hzs
    obtain ⟨Q, rfl⟩ := Int.eq_ofNat_of_zero_le hwr.1
    have hQn : Q < n := by omega
    have hQi : (Q : Int) < (n : Int) := by omega
    clear hps hl hr hk hn h1 h2 e hzs hq
    go_enter Tq.func25, Tq.ntmps25
    go_wp2_with fail
    refine (plurCounts_as _ _ _ ps _ n cl lots true zs _ HP.out HSM.out HI.out HK.out HZ.out).mono ?_
    rintro e w1 ⟨a, c, rfl, hi3, hb⟩
    rw [hpl] at hi3 ⊢
    have I1 := Lib.hid hi3
    have IL := Lib.hid (HI.out.below hb)
    have B1 := Lib.hid hb
    clear hi3 hb
    go_wp2_with fail
    refine (great_as _ n _ zs _ cl lots _ I1.out IL.out HL.out (fun i hi => (HLB.out i).1) (Q : Int) HW.out).mono ?_
    rintro e w2 ⟨rfl, hb⟩
    have I2 := Lib.hid (I1.out.below hb)
    have B2 := Lib.hid (B1.out.trans (hb.mono B1.out.size))
    obtain ⟨b, off, rfl, hbl, hc⟩ := I2.out.2.2.2 (by omega)
    have HC := Lib.hid hc
    clear hb hc
    go_wp2
    go_loop [8, 9, 10, 24] (fun nv _ _ iv => ∃ (i : Nat) (t : Int), i ≤ n ∧ iv = .int .i64 (i : Int) ∧ nv = .int .i64 t ∧ Hid (nextTo zs (Q : Int) i = t)) (fun _ _ _ iv => n - (intOf iv).toNat)
    case atStart => exact ⟨0, 0, Nat.zero_le _, rfl, rfl, rfl⟩
    case round =>
      obtain ⟨i, t, hil, rfl, rfl, hT⟩ := hrel
      by_cases hlt : i < n
      · have ci := HC.out i hlt
        have hzb := HLB.out i
        have HN := nextTo_succ zs (Q : Int) i
        rw [hT.out] at HN
        obtain ⟨z, hz⟩ : ∃ z, zs[i]?.getD 0 = z := ⟨_, rfl⟩
        rw [hz] at ci hzb HN
        have hii : (i : Int) < (n : Int) := by omega
        clear hz
        by_cases hiq : i = Q
        · have hne : ((i : Int) != (Q : Int)) = false := by simp [hiq]
          have HN2 : Hid (nextTo zs (Q : Int) (i + 1) = t) := by rw [Hid, HN, if_neg (by omega)]
          clear HN hiq
          go_wp2
          go_round
          case rel => exact ⟨i + 1, t, by omega, by go_num, rfl, HN2⟩
          case measure => simp [intOf]; omega
        · have hne : ((i : Int) != (Q : Int)) = true := bne_iff_ne.2 (by omega)
          rw [if_pos (by omega)] at HN
          clear hiq
          by_cases htz : t < z
          · have HN2 : Hid (nextTo zs (Q : Int) (i + 1) = z) := by rw [Hid, HN]; omega
            clear HN
            go_wp2
            go_round
            case rel => exact ⟨i + 1, z, by omega, by go_num, by first | rfl | (congr 1; omega), HN2⟩
            case measure => simp [intOf]; omega
          · have HN2 : Hid (nextTo zs (Q : Int) (i + 1) = t) := by rw [Hid, HN]; omega
            clear HN
            go_wp2
            go_round
            case rel => exact ⟨i + 1, t, by omega, by go_num, by first | rfl | (congr 1; omega), HN2⟩
            case measure => simp [intOf]; omega
      · obtain rfl : i = n := by omega
        have cq := HC.out Q hQn
        have hqb := HLB.out Q
        have htb := nextTo_low zs (Q : Int) i
        have htt := nextTo_top (c := zs) (w := (Q : Int)) (m := 5940) (fun j => (HLB.out j).2) (by omega) i
        have HEE := HE.out
        rw [Int.toNat_natCast] at HEE
        rw [hT.out] at HEE htb htt
        obtain ⟨z, hz⟩ : ∃ z, zs[Q]?.getD 0 = z := ⟨_, rfl⟩
        rw [hz] at cq hqb HEE
        have hwz : IntKind.i64.wrap (z - t) = z - t := IntWalk.i64_in _ (by omega)
        clear hz
        go_wp2
        go_ret
        exact ⟨by first | rfl | exact ret_int HEE, B2.out⟩

end Go.Proofs.Ytgkakgibgfehaaa

namespace Go.Proofs.Ytgkakgibgfehaaa
open Go.RowKit

theorem ints_one (zs : List Int) : ∀ u ∈ zs.map (Value.int .i64), u.oneCell' = true := by
  intro u hu
  obtain ⟨z, _, rfl⟩ := List.mem_map.1 hu
  simp [Value.oneCell']

/-- The cells behind a piece of a slice of ints: from off + p on, the first m of what is left. -/
theorem piece_cells {w : World} {b off len : Nat} {zs : List Int} (hz : zs.length = len) (hc : ∀ j, j < len → w.cell? ⟨b, off + j, none⟩ = some (.int .i64 (zs[j]?.getD 0))) (p m q : Nat) (hpm : p + m ≤ len) (hq : q = off + p) :
    ∀ j u, (((zs.drop p).take m).map (Value.int .i64))[j]? = some u → w.cell? ((⟨b, q, none⟩ : Addr).add j) = some u := by
  intro j u hj
  have hjm : j < m := by
    rcases Nat.lt_or_ge j m with h | h
    · exact h
    · rw [List.getElem?_eq_none (by simp; omega)] at hj; cases hj
  have hadd : (⟨b, q, none⟩ : Addr).add j = ⟨b, off + (p + j), none⟩ := by
    subst hq
    by_cases h : j = 0
    · subst h; simp [Addr.add]
    · simp [Addr.add, h]; omega
  rw [hadd, hc (p + j) (by omega)]
  rw [List.getElem?_map, List.getElem?_take_of_lt hjm, List.getElem?_drop] at hj
  have hlt : p + j < zs.length := by omega
  rw [List.getElem?_eq_getElem hlt] at hj ⊢
  simpa using hj

/-- .. all that is left from p on. -/
theorem piece_rest {w : World} {b off len : Nat} {zs : List Int} (hz : zs.length = len) (hc : ∀ j, j < len → w.cell? ⟨b, off + j, none⟩ = some (.int .i64 (zs[j]?.getD 0))) (p q : Nat) (hp : p ≤ len) (hq : q = off + p) :
    ∀ j u, ((zs.drop p).map (Value.int .i64))[j]? = some u → w.cell? ((⟨b, q, none⟩ : Addr).add j) = some u := by
  have h := piece_cells hz hc p (len - p) q (by omega) hq
  have e : (zs.drop p).take (len - p) = zs.drop p := List.take_of_length_le (by simp; omega)
  rwa [e] at h
theorem rest_none {zs : List Int} {p : Nat} (hp : zs.length ≤ p) : ∀ (j : Nat) (u : Value), ((zs.drop p).map (Value.int .i64))[j]? = some u → False := by
  intro j u h
  rw [List.drop_of_length_le hp] at h
  simp at h
/-- An append to a new slice leaves the cells of an older block as they were. -/
theorem kept_cells {w w5 : World} {t : TypeId} {g off len n c : Nat} {zs : List Int} (hg : g < w.heap.size) (h : (w.alloc (.cells #[] t)).drew.grownBy w5 (Value.slice (some ⟨w.heap.size, 0, none⟩) n c).ownBlock)
    (hc : ∀ j, j < len → w.cell? ⟨g, off + j, none⟩ = some (.int .i64 (zs[j]?.getD 0))) : ∀ j, j < len → w5.cell? ⟨g, off + j, none⟩ = some (.int .i64 (zs[j]?.getD 0)) := fun j hj =>
  (World.cell?_of_block (w := w) ((h.block g (by show g < (w.alloc _).heap.size; simp; omega) (fun e => by
    have : (some g : Option Nat) = some w.heap.size := e
    injection this with e2
    omega)).trans (Below.heap_alloc w _ g hg))).trans (hc j hj)
end Go.Proofs.Ytgkakgibgfehaaa

namespace Go.Proofs.Ytgkakgibgfehaaa
open Go.RowKit

attribute [local go_sem] Oper.semAt_some

theorem bool_info10 : (Tq.prog.info? 4).map (fun i => (i.zero, i.size, i.bytes)) = some (some (.bool false), 1, 1) := by kernel_rfl
set_option maxRecDepth 100000 in
set_option maxHeartbeats 2000000 in
/-- **l11All**. -/
theorem all11_as (n : Nat) (w : World) (hn : n ≤ 5) :
    Calls Tq.prog 71 #[.int .i64 (n : Int)] w fun e w' => ∃ a c, e = .returned (.slice a n c) ∧ w'.ownsRow w.heap.size 4 1 (.slice a n c) n ((allL n).map Value.bool) ∧ Below w.heap.size w w' := by
  obtain ⟨i0, hi, hz0, hz1, hz2⟩ := info_parts bool_info10
  have HE0 := Lib.hid (World.ownsRow_lit (base := w.heap.size) (e := 4) (size := 1) w #[] 0 (Nat.le_refl _) (by unfold maxLen; omega) rfl)
  have HB0 : Below w.heap.size w (w.alloc (.cells #[] 4)) := (Below.refl _ w).alloc (Nat.le_refl _) _
  go_enter Tq.func71, Tq.ntmps71
  go_wp2
  go_loopw [3, 4] (fun rv iv wr => ∃ (k : Nat) (a : Option Addr) (cap : Nat), k ≤ n ∧ iv = .int .i64 (k : Int) ∧ rv = .slice a k cap ∧ Hid (wr.ownsRow w.heap.size 4 1 (.slice a k cap) k ((allL k).map Value.bool)) ∧ Below w.heap.size w wr) (fun _ iv _ => n - (intOf iv).toNat)
  case atStart => exact ⟨0, _, _, Nat.zero_le _, rfl, rfl, HE0.out, HB0⟩
  case round =>
    clear HE0 HB0
    obtain ⟨k, a, cap, hk, rfl, rfl, ho, hB⟩ := hrel
    by_cases hlt : k < n
    · go_wp2_with (at_builtin; refine wpList_append_own _ rfl _ _ 24 rfl w.heap.size 4 i0 (.bool false) 1 1 Tq.underlying24 hi hz0 hz1 hz2 rfl (by decide) _ _ _ rfl (ho.out.alloc _) ⟨wr.heap.size, 0, none⟩ 1 1 [.bool true] rfl rfl (cell_one_new _ _ _) (by simp [Value.oneCell']) (by unfold maxLen; omega) (by omega) (by have := hB.size; simp; omega) ?_; intro v' w4 hown' hgrow _; obtain ⟨a4, cap4, rfl⟩ := owns_slice hown')
      have hrow : ∀ j, (Value.slice a k cap).ownBlock = some j → w.heap.size ≤ j := fun j ej => (ho.out.lt j ej).1
      have hB4 := (hB.alloc hB.size (.cells #[.bool true] 4)).grown hgrow (by have := hB.size; simp; omega) (fun j e => hrow j e)
      have HO4 : Hid (w4.ownsRow w.heap.size 4 1 (.slice a4 (k + 1) cap4) (k + 1) ((allL (k + 1)).map Value.bool)) := by
        unfold Hid; rw [allL, List.replicate_succ', List.map_append]; exact hown'
      clear hown' hgrow hrow
      go_wp2
      go_roundw
      case rel => exact ⟨k + 1, a4, cap4, by omega, by go_num, rfl, HO4.out, hB4⟩
      case measure => simp [intOf]; omega
    · obtain rfl : k = n := by omega
      go_wp2
      go_ret
      exact ⟨a, cap, rfl, ho.out, hB⟩

/-- What l11Most has found so far. -/
def mostTo (cs : List Int) (s : List Bool) (m : Int) (k : Nat) : List Bool := (List.range k).map fun i => s[i]?.getD false && (cs[i]?.getD 0 == m)
theorem mostTo_succ (cs : List Int) (s : List Bool) (m : Int) (k : Nat) : mostTo cs s m (k + 1) = mostTo cs s m k ++ [s[k]?.getD false && (cs[k]?.getD 0 == m)] := by simp [mostTo, List.range_succ]
set_option maxRecDepth 100000 in
set_option maxHeartbeats 4000000 in
/-- **l11Most**. -/
theorem most11_as (a : Option Addr) (n cap : Nat) (cs : List Int) (a' : Option Addr) (cap' : Nat) (s : List Bool) (w : World) (h : IsInts w a n cap cs) (h' : IsBools w a' n cap' s) (L : List Bool) (hL : mostL cs s = L) :
    Calls Tq.prog 70 #[.slice a n cap, .slice a' n cap'] w fun e w' => ∃ a c, e = .returned (.slice a n c) ∧ w'.ownsRow w.heap.size 4 1 (.slice a n c) n (L.map Value.bool) ∧ Below w.heap.size w w' := by
  obtain ⟨i0, hi, hz0, hz1, hz2⟩ := info_parts bool_info10
  obtain ⟨h1, h2, h3, h4⟩ := h
  obtain ⟨g1, g2, g3, g4⟩ := id h'
  have H1 := Lib.hid h1
  have H4 := Lib.hid h4
  have G4 := Lib.hid g4
  have HL := Lib.hid hL
  clear h1 h4 g4 g1 hL h'
  go_enter Tq.func70, Tq.ntmps70
  go_wp2
  go_loop [5, 6] (fun bv iv => ∃ (i : Nat) (m : Int), i ≤ n ∧ iv = .int .i64 (i : Int) ∧ bv = .int .i64 m ∧ Hid (bestS cs s i = m)) (fun _ iv => n - (intOf iv).toNat)
  case atStart => exact ⟨0, -1, Nat.zero_le _, rfl, rfl, bestS_zero _ _⟩
  case round =>
    obtain ⟨i, m, hin, rfl, rfl, hM⟩ := hrel
    by_cases hlt : i < n
    · obtain ⟨b, off, rfl, hb, hc⟩ := H4.out (by omega)
      obtain ⟨b', off', rfl, hb', hc'⟩ := G4.out (by omega)
      have ci := hc i hlt
      have si := hc' i hlt
      obtain ⟨z, hz⟩ : ∃ z, cs[i]?.getD 0 = z := ⟨_, rfl⟩
      obtain ⟨u, hu⟩ : ∃ u, s[i]?.getD false = u := ⟨_, rfl⟩
      rw [hz] at ci
      rw [hu] at si
      have HN : Hid (bestS cs s (i + 1) = if u = true then max m z else m) := by rw [Hid, bestS_succ, hu, hz, hM.out]
      clear hc hc' hz hu
      cases u
      · have HN2 : Hid (bestS cs s (i + 1) = m) := by rw [Hid, HN.out]; rfl
        clear HN
        go_wp2
        go_round
        case rel => exact ⟨i + 1, m, by omega, by go_num, rfl, HN2⟩
        case measure => simp [intOf]; omega
      · by_cases hmz : m < z
        · have HN2 : Hid (bestS cs s (i + 1) = z) := by rw [Hid, HN.out, if_pos rfl]; omega
          clear HN
          go_wp2
          go_round
          case rel => exact ⟨i + 1, z, by omega, by go_num, by first | rfl | (congr 1; omega), HN2⟩
          case measure => simp [intOf]; omega
        · have HN2 : Hid (bestS cs s (i + 1) = m) := by rw [Hid, HN.out, if_pos rfl]; omega
          clear HN
          go_wp2
          go_round
          case rel => exact ⟨i + 1, m, by omega, by go_num, by first | rfl | (congr 1; omega), HN2⟩
          case measure => simp [intOf]; omega
    · obtain rfl : i = n := by omega
      have HL2 : Hid (mostTo cs s m i = L) := by rw [Hid, ← HL.out, mostL, H1.out, hM.out]; rfl
      have HE0 := Lib.hid (World.ownsRow_lit (base := w.heap.size) (e := 4) (size := 1) w #[] 0 (Nat.le_refl _) (by unfold maxLen; omega) rfl)
      have HB0 : Below w.heap.size w (w.alloc (.cells #[] 4)) := (Below.refl _ w).alloc (Nat.le_refl _) _
      go_wp2
      go_loopw [7, 8] (fun rv iv wr => ∃ (k : Nat) (a : Option Addr) (cap : Nat), k ≤ i ∧ iv = .int .i64 (k : Int) ∧ rv = .slice a k cap ∧ Hid (wr.ownsRow w.heap.size 4 1 (.slice a k cap) k ((mostTo cs s m k).map Value.bool)) ∧ Below w.heap.size w wr) (fun _ iv _ => i - (intOf iv).toNat)
      case atStart => exact ⟨0, _, _, Nat.zero_le _, rfl, rfl, HE0.out, HB0⟩
      case round =>
        clear HE0 HB0
        obtain ⟨k, ar, cr, hk, rfl, rfl, ho, hB⟩ := hrel
        by_cases hlt : k < i
        · obtain ⟨b, off, rfl, hb, hc⟩ := H4.out (by omega)
          obtain ⟨b', off', rfl, hb', hc'⟩ := G4.out (by omega)
          have ck : wr.cell? ⟨b, off + k, none⟩ = _ := (hB.cell (p := ⟨b, off + k, none⟩) hb).trans (hc k hlt)
          have sk : wr.cell? ⟨b', off' + k, none⟩ = _ := (hB.cell (p := ⟨b', off' + k, none⟩) hb').trans (hc' k hlt)
          obtain ⟨z, hz⟩ : ∃ z, cs[k]?.getD 0 = z := ⟨_, rfl⟩
          obtain ⟨u, hu⟩ : ∃ u, s[k]?.getD false = u := ⟨_, rfl⟩
          obtain ⟨q, hq⟩ : ∃ q, (z == m) = q := ⟨_, rfl⟩
          rw [hz] at ck
          rw [hu] at sk
          have HN : Hid (mostTo cs s m (k + 1) = mostTo cs s m k ++ [u && q]) := by rw [Hid, mostTo_succ, hu, hz, hq]
          clear hc hc' hz hu
          cases u
          · skip
            go_wp2_with (at_builtin; refine wpList_append_own _ rfl _ _ 24 rfl w.heap.size 4 i0 (.bool false) 1 1 Tq.underlying24 hi hz0 hz1 hz2 rfl (by decide) _ _ _ rfl (ho.out.alloc _) ⟨wr.heap.size, 0, none⟩ 1 1 [.bool (false)] rfl rfl (cell_one_new _ _ _) (by simp [Value.oneCell']) (by unfold maxLen; omega) (by omega) (by have := hB.size; simp; omega) ?_; intro v' w4 hown' hgrow _; obtain ⟨a4, cap4, rfl⟩ := owns_slice hown')
            have hrow : ∀ j, (Value.slice ar k cr).ownBlock = some j → w.heap.size ≤ j := fun j ej => (ho.out.lt j ej).1
            have hB4 := (hB.alloc hB.size (.cells #[.bool (false)] 4)).grown hgrow (by have := hB.size; simp; omega) (fun j e => hrow j e)
            have HO4 : Hid (w4.ownsRow w.heap.size 4 1 (.slice a4 (k + 1) cap4) (k + 1) ((mostTo cs s m (k + 1)).map Value.bool)) := by
              unfold Hid; rw [HN.out, List.map_append]; exact hown'
            clear hown' hgrow hrow
            go_wp2
            go_roundw
            case rel => exact ⟨k + 1, a4, cap4, by omega, by go_num, rfl, HO4.out, hB4⟩
            case measure => simp [intOf]; omega
          · skip
            go_wp2_with (at_builtin; refine wpList_append_own _ rfl _ _ 24 rfl w.heap.size 4 i0 (.bool false) 1 1 Tq.underlying24 hi hz0 hz1 hz2 rfl (by decide) _ _ _ rfl (ho.out.alloc _) ⟨wr.heap.size, 0, none⟩ 1 1 [.bool (q)] rfl rfl (cell_one_new _ _ _) (by simp [Value.oneCell']) (by unfold maxLen; omega) (by omega) (by have := hB.size; simp; omega) ?_; intro v' w4 hown' hgrow _; obtain ⟨a4, cap4, rfl⟩ := owns_slice hown')
            have hrow : ∀ j, (Value.slice ar k cr).ownBlock = some j → w.heap.size ≤ j := fun j ej => (ho.out.lt j ej).1
            have hB4 := (hB.alloc hB.size (.cells #[.bool (q)] 4)).grown hgrow (by have := hB.size; simp; omega) (fun j e => hrow j e)
            have HO4 : Hid (w4.ownsRow w.heap.size 4 1 (.slice a4 (k + 1) cap4) (k + 1) ((mostTo cs s m (k + 1)).map Value.bool)) := by
              unfold Hid; rw [HN.out, List.map_append]; exact hown'
            clear hown' hgrow hrow
            go_wp2
            go_roundw
            case rel => exact ⟨k + 1, a4, cap4, by omega, by go_num, rfl, HO4.out, hB4⟩
            case measure => simp [intOf]; omega
        · obtain rfl : k = i := by omega
          go_wp2
          go_ret
          exact ⟨ar, cr, rfl, by rw [← HL2.out]; exact ho.out, hB⟩

end Go.Proofs.Ytgkakgibgfehaaa

namespace Go.Proofs.Ytgkakgibgfehaaa
open Go.RowKit

attribute [local go_sem] Oper.semAt_some

set_option maxRecDepth 100000 in
set_option maxHeartbeats 2000000 in
/-- **l11Winner**, at valid arguments. -/
theorem win11_as (a : Option Addr) (len cap : Nat) (ps : List Pl) (a' : Option Addr) (n cap' : Nat) (lots : List Int) (r : Int) (w : World) (h : IsPiles w a len cap ps) (hs : Small ps) (h' : IsInts w a' n cap' lots) (hk : plOk ps lots = true) (hr : winL ps lots = r) :
    Calls Tq.prog 60 #[.slice a len cap, .slice a' n cap'] w fun e w' => e = .returned (.int .i64 r) ∧ Below w.heap.size w w' := by
  obtain ⟨i0, hi, hz0, hz1, hz2⟩ := info_parts bool_infoP
  have hwr := win_in hk
  obtain ⟨k1, k2⟩ := (plOk_iff _ _).1 hk
  have hn := h'.1
  rw [hn] at hwr k2
  have HP := Lib.hid h
  have HI := Lib.hid h'
  have HSM := Lib.hid hs
  have HF := Lib.hid k2
  have HZ : Hid (∀ z ∈ lots, 0 ≤ z ∧ z < (n : Int)) := fun z hz => by have := lotsB_mem k1 z hz; rw [hn] at this; exact this
  have HR : Hid (pickL lots (mostL (plurC ps n) (allL n)) = r) := by rw [Hid, ← hr, ← hn]; rfl
  clear h h' hk hr k1 k2 hn
  go_enter Tq.func60, Tq.ntmps60
  go_wp2_with (at_make; refine wpList_make_full _ rfl _ _ 24 rfl w.heap.size 4 i0 (.bool false) 1 Tq.underlying24 hi hz0 hz1 .i64 .i64 _ _ n rfl rfl rfl rfl (by rw [hz2]; omega) (by unfold maxLen; omega) (Nat.le_refl _) ?_; intro w2 hown hgrow; have hb2 : Below w.heap.size w w2 := (Below.refl _ w).grown hgrow (Nat.le_refl _) (fun k e => by cases e); rw [nones_made] at hown; have J := Lib.hid (nones_own hown (by omega) (Nat.le_refl _)); clear hown hgrow)
  have HP2 := Lib.hid (HP.out.below hb2)
  have HI2 := Lib.hid (HI.out.below hb2)
  have B2 := Lib.hid hb2
  clear hb2
  refine (specCounts0_as _ _ _ ps _ n n (noneL n) _ HP2.out HSM.out J.out HF.out).mono ?_
  rintro e w3 ⟨g, rfl, ho, hb⟩
  have IC := Lib.hid (IsInts.of_owned ho (by omega))
  have HI3 := Lib.hid (HI2.out.below hb)
  have B3 := Lib.hid (B2.out.trans (hb.mono B2.out.size))
  clear ho hb HP2 HI2 J
  go_wp2_with fail
  refine (all11_as n _ (by omega)).mono ?_
  rintro e w4 ⟨aa, ca, rfl, ho, hb⟩
  have JA := Lib.hid (IsBools.of_owned ho (by omega))
  have IC := Lib.hid (IC.out.below hb)
  have HI4 := Lib.hid (HI3.out.below hb)
  have B4 := Lib.hid (B3.out.trans (hb.mono B3.out.size))
  clear ho hb HI3
  go_wp2_with fail
  refine (most11_as _ n _ (countsL ps (noneL n)) _ _ (allL n) _ IC.out JA.out _ rfl).mono ?_
  rintro e w5 ⟨am, cm, rfl, ho, hb⟩
  have JM := Lib.hid (IsBools.of_owned ho (by omega))
  have HI5 := Lib.hid (HI4.out.below hb)
  have B5 := Lib.hid (B4.out.trans (hb.mono B4.out.size))
  clear ho hb HI4
  go_wp2_with fail
  refine (l4First_any _ _ _ lots _ _ _ _ _ HI5.out JM.out HZ.out).mono ?_
  rintro e w6 ⟨rfl, rfl⟩
  go_wp2
  go_ret
  exact ⟨ret_int HR.out, B5.out⟩

set_option maxRecDepth 100000 in
set_option maxHeartbeats 4000000 in
/-- **spec.PluralityMargin**. -/
theorem specMar_as (a : Option Addr) (len cap : Nat) (ps : List Pl) (a' : Option Addr) (n cap' : Nat) (lots : List Int) (r : Int) (w : World) (h : IsPiles w a len cap ps) (hs : Small ps) (h' : IsInts w a' n cap' lots) (hr : plMar ps lots = r) :
    Calls Tq.prog 26 #[.slice a len cap, .slice a' n cap'] w fun e w' => e = .returned (.int .i64 r) ∧ Below w.heap.size w w' := by
  have HP := Lib.hid h
  have HI := Lib.hid h'
  have HSM := Lib.hid hs
  have hn := h'.1
  cases k1 : lotsB lots
  · have e : r = -1 := by rw [← hr, plMar, if_neg (by unfold plOk; rw [k1]; simp)]
    subst e
    have V1 := Lib.hid k1
    clear h h' hr k1 hn
    go_enter Tq.func26, Tq.ntmps26
    go_wp2_with fail
    refine (specLots_as _ _ _ lots false _ HI.out V1.out).mono ?_
    rintro e w1 ⟨rfl, hd⟩
    go_wp2
    go_ret
    exact ⟨rfl, hd.below _⟩
  cases k2 : fitsB ps (n : Int)
  · have e : r = -1 := by rw [← hr, plMar, if_neg (by unfold plOk; rw [hn, k2]; simp)]
    subst e
    have V1 := Lib.hid k1
    have V2 := Lib.hid k2
    clear h h' hr k1 k2 hn
    go_enter Tq.func26, Tq.ntmps26
    go_wp2_with fail
    refine (specLots_as _ _ _ lots true _ HI.out V1.out).mono ?_
    rintro e w1 ⟨rfl, hd⟩
    have HP1 := Lib.hid (HP.out.below (hd.below w.heap.size))
    have B1 := Lib.hid (hd.below w.heap.size)
    clear hd
    go_wp2_with fail
    refine (specFits_as _ _ _ ps (n : Int) false _ HP1.out HSM.out V2.out).mono ?_
    rintro e w2 ⟨rfl, hb⟩
    go_wp2
    go_ret
    exact ⟨rfl, B1.out.trans (hb.mono B1.out.size)⟩
  have hk : plOk ps lots = true := (plOk_iff _ _).2 ⟨k1, by rw [hn]; exact k2⟩
  have e : marginL ps lots = r := by rw [← hr, plMar, if_pos hk]
  have HK := Lib.hid hk
  have V1 := Lib.hid k1
  have V2 := Lib.hid k2
  have HE := Lib.hid e
  obtain ⟨i0, hi, hz0, hz1, hz2⟩ := info_parts bool_infoP
  have hwr := win_in hk
  have hpl : (plurC ps n).length = n := plurC_length _ _
  unfold marginL at e
  rw [hn] at e hwr
  obtain ⟨q, hq⟩ : ∃ q, winL ps lots = q := ⟨_, rfl⟩
  have HQ := Lib.hid hq
  rw [hq] at hwr e
  have HLB : Hid (∀ i : Nat, 0 ≤ (plurC ps n)[i]?.getD 0 ∧ (plurC ps n)[i]?.getD 0 ≤ 5940) := fun i => plur_low k2 i
  obtain ⟨zs, hzs⟩ : ∃ zs, plurC ps n = zs := ⟨_, rfl⟩
  rw [hzs] at hpl HLB e
  have HE2 := Lib.hid e
  have HZ : Hid (countsL ps (noneL n) = zs) := hzs
  obtain ⟨Q, rfl⟩ := Int.eq_ofNat_of_zero_le hwr.1
  have hQn : Q < n := by omega
  have hQi : (Q : Int) < (n : Int) := by omega
  clear h h' hr k1 k2 hn hk e hzs hq HE
  go_enter Tq.func26, Tq.ntmps26
  go_wp2_with fail
  refine (specLots_as _ _ _ lots true _ HI.out V1.out).mono ?_
  rintro e w1 ⟨rfl, hd⟩
  have HP := Lib.hid (HP.out.below (hd.below w.heap.size))
  have HI := Lib.hid (HI.out.below (hd.below w.heap.size))
  have B1 := Lib.hid (hd.below w.heap.size)
  clear hd
  go_wp2_with fail
  refine (specFits_as _ _ _ ps (n : Int) true _ HP.out HSM.out V2.out).mono ?_
  rintro e w2 ⟨rfl, hb⟩
  have HP := Lib.hid (HP.out.below hb)
  have HI := Lib.hid (HI.out.below hb)
  have B2 := Lib.hid (B1.out.trans (hb.mono B1.out.size))
  clear hb
  go_wp2_with (at_make; refine wpList_make_full _ rfl _ _ 24 rfl w2.heap.size 4 i0 (.bool false) 1 Tq.underlying24 hi hz0 hz1 .i64 .i64 _ _ n rfl rfl rfl rfl (by rw [hz2]; omega) (by unfold maxLen; omega) (Nat.le_refl _) ?_; intro w4 hown hgrow; have hb4 : Below w2.heap.size w2 w4 := (Below.refl _ w2).grown hgrow (Nat.le_refl _) (fun k e => by cases e); rw [nones_made] at hown; have J := Lib.hid (nones_own hown (by omega) (Nat.le_refl _)); clear hown hgrow)
  have HP4 := Lib.hid (HP.out.below hb4)
  have HI4 := Lib.hid (HI.out.below hb4)
  have B4 := Lib.hid (B2.out.trans (hb4.mono B2.out.size))
  clear hb4
  refine (specCounts0_as _ _ _ ps _ n n (noneL n) _ HP4.out HSM.out J.out V2.out).mono ?_
  rintro e w5 ⟨g, rfl, ho, hb⟩
  rw [HZ.out] at ho
  have IC := Lib.hid (IsInts.of_owned ho (by omega))
  have HP5 := Lib.hid (HP4.out.below hb)
  have HI5 := Lib.hid (HI4.out.below hb)
  have B5 := Lib.hid (B4.out.trans (hb.mono B4.out.size))
  clear ho hb HP4 HI4 J HP HI
  go_wp2_with fail
  refine (win11_as _ _ _ ps _ n _ lots (Q : Int) _ HP5.out HSM.out HI5.out HK.out HQ.out).mono ?_
  rintro e w6 ⟨rfl, hb⟩
  have IC := Lib.hid (IC.out.below hb)
  have B6 := Lib.hid (B5.out.trans (hb.mono B5.out.size))
  obtain ⟨b, off, e2, hbl, hc⟩ := IC.out.2.2.2 (by omega)
  injection e2 with e2
  injection e2 with e21 e22
  subst e21
  subst e22
  have HC := Lib.hid hc
  clear hb hc
  go_wp2
  go_loopw [7, 8] (fun nv iv wr => ∃ (i : Nat) (t : Int), i ≤ n ∧ iv = .int .i64 (i : Int) ∧ nv = .int .i64 t ∧ Hid (nextTo zs (Q : Int) i = t) ∧ Dr w6 wr) (fun _ iv _ => n - (intOf iv).toNat)
  case atStart => exact ⟨0, 0, Nat.zero_le _, rfl, rfl, rfl, Dr.refl _⟩
  case round =>
    obtain ⟨i, t, hil, rfl, rfl, hT, hd⟩ := hrel
    by_cases hlt : i < n
    · have ci := ((hd.below w6.heap.size).cell (p := ⟨g, 0 + i, none⟩) hbl).trans (HC.out i hlt)
      have hzb := HLB.out i
      have HN := nextTo_succ zs (Q : Int) i
      rw [hT.out] at HN
      obtain ⟨z, hz⟩ : ∃ z, zs[i]?.getD 0 = z := ⟨_, rfl⟩
      rw [hz] at ci hzb HN
      rw [Nat.zero_add] at ci
      have hii : (i : Int) < (n : Int) := by omega
      clear hz
      by_cases hiq : i = Q
      · have hne : ((i : Int) != (Q : Int)) = false := by simp [hiq]
        have HN2 : Hid (nextTo zs (Q : Int) (i + 1) = t) := by rw [Hid, HN, if_neg (by omega)]
        clear HN hiq
        go_wp2
        go_roundw
        case rel => exact ⟨i + 1, t, by omega, by go_num, rfl, HN2, hd⟩
        case measure => simp [intOf]; omega
      · have hne : ((i : Int) != (Q : Int)) = true := bne_iff_ne.2 (by omega)
        rw [if_pos (by omega)] at HN
        clear hiq
        by_cases htz : t < z
        · have HN2 : Hid (nextTo zs (Q : Int) (i + 1) = z) := by rw [Hid, HN]; omega
          clear HN
          go_wp2_with fail
          (try go_quiet (fail))
          go_wp2
          go_roundw
          case rel => exact ⟨i + 1, z, by omega, by go_num, by first | rfl | (congr 1; omega), HN2, by first | exact hd | exact hd.drewN _⟩
          case measure => simp [intOf]; omega
        · have HN2 : Hid (nextTo zs (Q : Int) (i + 1) = t) := by rw [Hid, HN]; omega
          clear HN
          go_wp2_with fail
          (try go_quiet (fail))
          go_wp2
          go_roundw
          case rel => exact ⟨i + 1, t, by omega, by go_num, by first | rfl | (congr 1; omega), HN2, by first | exact hd | exact hd.drewN _⟩
          case measure => simp [intOf]; omega
    · obtain rfl : i = n := by omega
      have cq := ((hd.below w6.heap.size).cell (p := ⟨g, 0 + Q, none⟩) hbl).trans (HC.out Q hQn)
      have hqb := HLB.out Q
      have htb := nextTo_low zs (Q : Int) i
      have htt := nextTo_top (c := zs) (w := (Q : Int)) (m := 5940) (fun j => (HLB.out j).2) (by omega) i
      have HEE := HE2.out
      rw [Int.toNat_natCast, hT.out] at HEE
      rw [hT.out] at htb htt
      rw [Nat.zero_add] at cq
      obtain ⟨z, hz⟩ : ∃ z, zs[Q]?.getD 0 = z := ⟨_, rfl⟩
      rw [hz] at cq hqb HEE
      have hwz : IntKind.i64.wrap (z - t) = z - t := IntWalk.i64_in _ (by omega)
      have BF := B6.out.trans (hd.below w6.heap.size |>.mono B6.out.size)
      clear hz
      go_wp2_with fail
      (try go_quiet (fail))
      go_wp2
      go_ret
      exact ⟨by first | rfl | exact ret_int HEE, by first | exact BF | exact (BF.trans ((Dr.refl _).drewN _ |>.below _))⟩

end Go.Proofs.Ytgkakgibgfehaaa

namespace Go.Proofs.Ytgkakgibgfehaaa
open Go.RowKit

theorem HasP.lt {w0 w : World} {ps : List Pl} {g cap : Nat} (h : HasP w0 w ps g cap) : g < w.heap.size := (h.1.lt g rfl).2

end Go.Proofs.Ytgkakgibgfehaaa

namespace Go.Proofs.Ytgkakgibgfehaaa
open Go.RowKit

/-- The blocks of two slices are not the same. -/
def Apart (v v' : Value) : Prop := ∀ j, v.ownBlock = some j → v'.ownBlock ≠ some j
theorem kept_apart {w w' : World} {base n size : Nat} {e : TypeId} {v u : Value} {xs : List Value} (h : w.ownsRow base e size v n xs) (hg : w.grownBy w' u.ownBlock) (ha : Apart u v) : w'.ownsRow base e size v n xs := by
  refine h.kept hg ?_
  cases hb : v.ownBlock with
  | none => exact .inl rfl
  | some j => right; intro e2; exact ha j e2.symm hb
theorem lotsRow_low {w : World} {base base' n size : Nat} {e : TypeId} {v : Value} {xs : List Value} (h : w.ownsRow base e size v n xs) (hb : base' ≤ base) : w.ownsRow base' e size v n xs := by
  refine ⟨h.1, ?_⟩
  rcases h.2 with hn | ⟨g, cap, cur, h1, h2, h3⟩
  · exact .inl hn
  · exact .inr ⟨g, cap, cur, h1, Nat.le_trans hb h2, h3⟩
theorem owned_at {w : World} {base n : Nat} {a : Option Addr} {cap : Nat} {xs : List Value} (h : w.ownsRow base 3 1 (.slice a n cap) n xs) (hn : 0 < n) : ∃ g, a = some ⟨g, 0, none⟩ ∧ g < w.heap.size ∧ n ≤ cap ∧ cap ≤ maxLen := by
  rcases h.2 with ⟨_, e0⟩ | ⟨g, c, cur, e, _, hg, h1, h2, _⟩
  · omega
  · injection e with e1 _ e3
    subst e3
    exact ⟨g, e1, (Array.getElem?_eq_some_iff.1 hg).1, h1, h2⟩
theorem erase_parts (rest : List Int) (k : Nat) : rest.take k ++ rest.drop (k + 1) = rest.eraseIdx k := (List.eraseIdx_eq_take_drop_succ rest k).symm

/-- The length of a slice's value. -/
def sliceLen : Value → Nat
  | .slice _ n _ => n
  | _ => 0

/-- What the drawing loop keeps: those that are left, the lots drawn, in two blocks of the call's own. -/
def LotInv (w : World) (k s : Nat) (sv rv lv : Value) (wr : World) : Prop := ∃ (sd : Nat) (rest out : List Int) (a : Option Addr) (cap : Nat) (a2 : Option Addr) (cap2 : Nat), sd ≤ 999 ∧ sv = .int .i64 (sd : Int) ∧ rv = .slice a rest.length cap ∧ lv = .slice a2 out.length cap2 ∧ rest.length ≤ 5 ∧ out.length + rest.length = k ∧
  Hid (out ++ lotR rest sd = lotsOf k s) ∧ Hid (wr.ownsRow w.heap.size 3 1 (.slice a rest.length cap) rest.length (rest.map (Value.int .i64))) ∧ Hid (wr.ownsRow w.heap.size 3 1 (.slice a2 out.length cap2) out.length (out.map (Value.int .i64))) ∧ Hid (Apart (.slice a2 out.length cap2) (.slice a rest.length cap)) ∧ Below w.heap.size w wr

set_option maxRecDepth 100000 in
set_option maxHeartbeats 4000000 in
/-- **spec.LotsOf**, at a number of candidates and a seed in range. -/
theorem specLotsOf_yes (n s : Nat) (w : World) (hn1 : 1 ≤ n) (hn5 : n ≤ 5) (hs : s ≤ 999) :
    Calls Tq.prog 126 #[.int .i64 (n : Int), .int .i64 (s : Int)] w fun e w' => ∃ a cap, e = .returned (.tuple #[.slice a n cap, .bool true]) ∧ w'.ownsRow w.heap.size 3 1 (.slice a n cap) n ((lotsOf n s).map (Value.int .i64)) ∧ Below w.heap.size w w' := by
  obtain ⟨i0, hi, hz0, hz1, hz2⟩ := info_parts int_info
  have H1 := Lib.hid (inB_yes (x := (n : Int)) (lo := 1) (hi := 5) (by omega) (by omega))
  have H2 := Lib.hid (inB_yes (x := (s : Int)) (lo := 0) (hi := 999) (by omega) (by omega))
  have HE0 := Lib.hid (World.ownsRow_lit (base := w.heap.size) (e := 3) (size := 1) w #[] 0 (Nat.le_refl _) (by unfold maxLen; omega) rfl)
  have HB0 : Below w.heap.size w (w.alloc (.cells #[] 3)) := (Below.refl _ w).alloc (Nat.le_refl _) _
  go_enter Tq.func126, Tq.ntmps126
  go_wp2_with fail
  refine (l6In_any _ _ _ _).mono ?_
  rintro e w' ⟨he, rfl⟩
  rw [H1.out] at he
  subst he
  go_wp2_with fail
  refine (l6In_any _ _ _ _).mono ?_
  rintro e w' ⟨he, rfl⟩
  rw [H2.out] at he
  subst he
  go_wp2
  go_loopw [6, 7] (fun rv iv wr => ∃ (k : Nat) (a : Option Addr) (cap : Nat), k ≤ n ∧ iv = .int .i64 (k : Int) ∧ rv = .slice a k cap ∧ Hid (wr.ownsRow w.heap.size 3 1 (.slice a k cap) k ((fromZero k).map (Value.int .i64))) ∧ Below w.heap.size w wr) (fun _ iv _ => n - (intOf iv).toNat)
  case atStart => exact ⟨0, _, _, Nat.zero_le _, rfl, rfl, HE0.out, HB0⟩
  case round =>
    obtain ⟨k, a, cap, hk, rfl, rfl, ho, hB⟩ := hrel
    by_cases hlt : k < n
    · go_wp2_with (at_builtin; refine wpList_append_own _ rfl _ _ 27 rfl w.heap.size 3 i0 (.int .i64 0) 1 8 Tq.underlying27 hi hz0 hz1 hz2 rfl (by decide) _ _ _ rfl (ho.out.alloc _) ⟨wr.heap.size, 0, none⟩ 1 1 [.int .i64 (k : Int)] rfl rfl (cell_one_new _ _ _) (by simp [Value.oneCell']) (by unfold maxLen; omega) (by omega) (by have := hB.size; simp; omega) ?_; intro v' w4 hown' hgrow _; obtain ⟨a4, cap4, rfl⟩ := owns_slice hown')
      have hrow : ∀ j, (Value.slice a k cap).ownBlock = some j → w.heap.size ≤ j := fun j ej => (ho.out.lt j ej).1
      have hB4 := (hB.alloc hB.size (.cells #[.int .i64 (k : Int)] 3)).grown hgrow (by have := hB.size; simp; omega) (fun j e => hrow j e)
      have HO4 : Hid (w4.ownsRow w.heap.size 3 1 (.slice a4 (k + 1) cap4) (k + 1) ((fromZero (k + 1)).map (Value.int .i64))) := by
        unfold Hid; rw [fromZero_succ, List.map_append]; exact hown'
      clear hown' hgrow hrow
      go_wp2
      go_roundw
      case rel => exact ⟨k + 1, a4, cap4, by omega, by go_num, rfl, HO4.out, hB4⟩
      case measure => simp [intOf]; omega
    · obtain rfl : k = n := by omega
      have HR : Hid ((fromZero k).length = k) := fromZero_length k
      have HRE := Lib.hid (ho.out.alloc (.cells #[] 3))
      have hlt0 : Hid (∀ j, (Value.slice a k cap).ownBlock = some j → j < wr.heap.size) := fun j ej => (ho.out.lt j ej).2
      have hsz := hB.size
      have HOE := Lib.hid (World.ownsRow_lit (base := w.heap.size) (e := 3) (size := 1) wr #[] 0 hsz (by unfold maxLen; omega) rfl)
      have hB1 := hB.alloc hsz (.cells #[] 3)
      go_wp2
      go_loopw [1, 6, 8, 9] (fun sv rv lv kv wr => LotInv w k s sv rv lv wr) (fun _ rv _ _ _ => sliceLen rv)
      case atStart =>
        unfold LotInv
        refine ⟨s, fromZero k, [], a, cap, _, _, hs, rfl, by rw [HR.out], rfl, by rw [HR.out]; exact hn5, by rw [HR.out]; simp, ?_, ?_, HOE.out, ?_, hB1⟩
        · unfold Hid; rw [lotR_all]; rfl
        · unfold Hid; rw [HR.out]; exact HRE.out
        · intro j h1 h2
          have e1 : j < wr.heap.size := hlt0.out j (by rw [HR.out] at h2; exact h2)
          have h1 : some wr.heap.size = some j := h1
          injection h1 with h1
          omega
      case round =>
        clear HR HRE HOE hlt0 hB1 hsz ho hB
        obtain ⟨sd, rest, out, a, cap, a2, cap2, hsd, rfl, rfl, rfl, hr5, hsum, hall, ho, ho2, hap, hB⟩ := hrel
        by_cases hlt : 0 < rest.length
        · obtain ⟨g, rfl, hgw, hcap, hmx⟩ := owned_at ho.out hlt
          have hgt : decide (0 < (rest.length : Int)) = true := decide_eq_true (by omega)
          have hkz : ((rest.length : Int) == 0) = false := beq_eq_false_iff_ne.2 (by omega)
          obtain ⟨q, hqe⟩ : ∃ q, sd % rest.length = q := ⟨_, rfl⟩
          obtain ⟨d, hde⟩ : ∃ d, sd / rest.length = d := ⟨_, rfl⟩
          have hqk : q < rest.length := by rw [← hqe]; exact Nat.mod_lt sd hlt
          have hd9 : d ≤ sd := by rw [← hde]; exact Nat.div_le_self sd _
          have hq : ((sd : Int) % (rest.length : Int)) = (q : Int) := by rw [← hqe]; exact (Int.natCast_emod sd rest.length).symm
          have hdv : ((sd : Int) / (rest.length : Int)) = (d : Int) := by rw [← hde]; exact (Int.natCast_ediv sd rest.length).symm
          have HST := Lib.hid (lotR_step (rest := rest) rfl (by omega) sd)
          rw [hqe, hde] at HST
          have HEL := Lib.hid (erase_length (rest := rest) rfl hqk)
          have hcz := ho.out.cellAt q (by omega)
          obtain ⟨z, hz⟩ : ∃ z, rest[q]?.getD 0 = z := ⟨_, rfl⟩
          have HZ := Lib.hid hz
          have hcell : wr.cell? ⟨g, q, none⟩ = some (.int .i64 z) := by
            rw [hcz, ← hz]; simp [hqk]
          clear hcz hz hqe hde
          go_wp2_with (at_builtin; refine wpList_append_own _ rfl _ _ 27 rfl w.heap.size 3 i0 (.int .i64 0) 1 8 Tq.underlying27 hi hz0 hz1 hz2 rfl (by decide) _ _ _ rfl (ho2.out.alloc _) ⟨wr.heap.size, 0, none⟩ 1 1 [.int .i64 z] rfl rfl (cell_one_new _ _ _) (by simp [Value.oneCell']) (by unfold maxLen; omega) (by omega) (by have := hB.size; simp; omega) ?_; intro v' w4 hown' hgrow _; obtain ⟨a4, cap4, rfl⟩ := owns_slice hown')
          have hrow : ∀ j, (Value.slice a2 out.length cap2).ownBlock = some j → w.heap.size ≤ j := fun j ej => (ho2.out.lt j ej).1
          have hB4 := (hB.alloc hB.size (.cells #[.int .i64 z] 3)).grown hgrow (by have := hB.size; simp; omega) (fun j e => hrow j e)
          have O3 : Hid (w4.ownsRow w.heap.size 3 1 (.slice (some ⟨g, 0, none⟩) rest.length cap) rest.length (rest.map (Value.int .i64))) := kept_apart (ho.out.alloc _) hgrow hap.out
          have HO4 : Hid (w4.ownsRow w.heap.size 3 1 (.slice a4 (out.length + 1) cap4) (out.length + 1) ((out ++ [z]).map (Value.int .i64))) := by
            unfold Hid; rw [List.map_append]; exact hown'
          have hg4 : g < w4.heap.size := (O3.out.lt g rfl).2
          have hcs : Hid (∀ j, j < rest.length → w4.cell? ⟨g, 0 + j, none⟩ = some (.int .i64 (rest[j]?.getD 0))) := fun j hj => by
            rw [Nat.zero_add, O3.out.cellAt j (by omega)]; simp [hj]
          have hE : Hid ((w4.alloc (.cells #[] 3)).drew.ownsRow w4.heap.size 3 1 (.slice (some ⟨w4.heap.size, 0, none⟩) 0 0) 0 []) := (World.ownsRow_lit (base := w4.heap.size) (e := 3) (size := 1) w4 #[] 0 (Nat.le_refl _) (by unfold maxLen; omega) rfl).drew
          clear hown' hgrow hrow ho ho2 hap hB hcell
          go_wp2
          have hqc : q ≤ cap := by omega
          have hq1 : q + 1 ≤ rest.length := by omega
          have hk1i : (q : Int) + 1 ≤ (rest.length : Int) := by omega
          have hk0 : (0 : Int) ≤ (q : Int) + 1 := by omega
          have hzci : (rest.length : Int) ≤ (cap : Int) := by omega
          have L1 : Hid (((rest.take q).map (Value.int .i64)).length = q * 1) := by unfold Hid; simp; omega
          have L2 : Hid (((rest.drop (q + 1)).map (Value.int .i64)).length = (rest.length - (q + 1)) * 1) := by unfold Hid; simp
          have P1 : Hid (∀ j u, ((rest.take q).map (Value.int .i64))[j]? = some u → (w4.alloc (.cells #[] 3)).drew.cell? ((⟨g, 0, none⟩ : Addr).add j) = some u) :=
            piece_cells (zs := rest) (len := rest.length) (off := 0) rfl (fun j hj => (((Below.refl w4.heap.size w4).alloc (Nat.le_refl _) _).drew.cell (p := ⟨g, 0 + j, none⟩) hg4).trans (hcs.out j hj)) 0 q 0 (by omega) rfl
          have M1 : 0 + q ≤ maxLen := by unfold maxLen; omega
          have N1 : (0 + q) * 8 ≤ 140737488355328 := by omega
          have S1 : w4.heap.size ≤ (w4.alloc (.cells #[] 3)).drew.heap.size := by simp
          have M2 : q + (rest.length - (q + 1)) ≤ maxLen := by unfold maxLen; omega
          have N2 : (q + (rest.length - (q + 1))) * 8 ≤ 140737488355328 := by omega
          have M2e : q + 0 ≤ maxLen := by unfold maxLen; omega
          have N2e : (q + 0) * 8 ≤ 140737488355328 := by omega
          by_cases hck : cap = q + 1
          · subst hck
            have hzl : rest.length ≤ q + 1 := by omega
            have L2e : Hid (((rest.drop (q + 1)).map (Value.int .i64)).length = 0 * 1) := by unfold Hid; simp; omega
            have PE := Lib.hid (rest_none hzl)
            have hkci : (q : Int) ≤ (q : Int) + 1 := by omega
            have hkcc : (q : Int) + 1 ≤ (q : Int) + 1 := by omega
            have hzk : (rest.length : Int) ≤ (q : Int) + 1 := by omega
            have hw1 : IntKind.i64.wrap ((q : Int) + 1) = (q : Int) + 1 := IntWalk.i64_in _ (by omega)
            have ht1 : ((q : Int) + 1).toNat = q + 1 := by omega
            go_region_law (first
              | (refine step_append_own (by rfl) _ _ _ (by rfl) w4.heap.size 3 i0 (.int .i64 0) 1 8 Tq.underlying27 hi hz0 hz1 hz2 rfl Nat.one_pos (.slice (some ⟨w4.heap.size, 0, none⟩) 0 0) 0 [] (by rfl) hE.out ⟨g, 0, none⟩ q _ ((rest.take q).map (Value.int .i64)) (by rfl) L1.out P1.out (ints_one _) M1 N1 S1 ?_; intro v5 w5 hown5 hgrow5 _; simp only [Nat.zero_add, List.nil_append] at hown5; obtain ⟨a5, c5, rfl⟩ := owns_slice hown5; have C5 := Lib.hid (kept_cells hg4 hgrow5 hcs.out); have B5 := Lib.hid (kept_below hgrow5); have O5 := Lib.hid hown5; clear hown5 hgrow5)
              | (refine step_append_own (by rfl) _ _ _ (by rfl) w4.heap.size 3 i0 (.int .i64 0) 1 8 Tq.underlying27 hi hz0 hz1 hz2 rfl Nat.one_pos (.slice a5 q c5) q ((rest.take q).map (Value.int .i64)) (by rfl) O5.out ⟨g, 0, none⟩ 0 _ ((rest.drop (q + 1)).map (Value.int .i64)) (by rfl) L2e.out (fun j u h => (PE.out j u h).elim) (ints_one _) M2e N2e B5.out.size ?_; intro v6 w6 hown6 hgrow6 _; obtain ⟨a6, c6, rfl⟩ := owns_slice hown6; have B6 := Lib.hid (B5.out.grown hgrow6 B5.out.size (fun j ej => (O5.out.lt j ej).1)); have X6 := Lib.hid hown6; clear hown6 hgrow6))
            all_goals
              clear hw1 ht1
              have O6 := Lib.hid (lotsRow_low (owns_under HO4.out B6.out) (Nat.le_refl _))
              have hB6 := hB4.trans (B6.out.mono hB4.size)
              have hap6 : Hid (Apart (.slice a4 (out.length + 1) cap4) (.slice a6 (q + 0) c6)) := by
                intro j h1 h2
                have e1 := (HO4.out.lt j h1).2
                have e2 := (X6.out.lt j h2).1
                omega
              have X7 := Lib.hid (lotsRow_low X6.out hB4.size)
              have hinv : LotInv w k s (.int .i64 (d : Int)) (.slice a6 (q) c6) (.slice a4 (out.length + 1) cap4) w6 := by
                unfold LotInv
                refine ⟨d, rest.eraseIdx q, out ++ [z], a6, c6, a4, cap4, by omega, rfl, ?g1, ?g2, ?g3, ?g4, ?g5, ?g6, ?g7, ?g8, hB6⟩
                case g1 => rw [HEL.out, show rest.length - 1 = q by omega]
                case g2 => rw [List.length_append]; rfl
                case g3 => rw [HEL.out]; omega
                case g4 => rw [HEL.out, List.length_append, List.length_singleton]; omega
                case g5 => unfold Hid; rw [← hall.out, HST.out, HZ.out, List.append_assoc]; rfl
                case g6 => unfold Hid; rw [HEL.out, ← erase_parts, List.map_append]; have := X7.out; rwa [show rest.length - 1 = q + 0 by omega]
                case g7 => unfold Hid; rw [List.length_append]; exact O6.out
                case g8 => unfold Hid; rw [HEL.out, List.length_append, show rest.length - 1 = q + 0 by omega]; exact hap6.out
              have HINV := Lib.hid hinv
              have hms : q < rest.length := by omega
              clear hinv X6 X7 hap6 O6 B6
              go_wp2
              go_roundw
              case rel => exact ⟨_, _, _, HINV.out, rfl, rfl, rfl⟩
              case measure => simpa [sliceLen] using hms
          · have hkci : (q : Int) ≤ (cap : Int) := by omega
            have hkcc : (q : Int) + 1 ≤ (cap : Int) := by omega
            have hck2 : ¬ cap = q := by omega
            have hw1 : IntKind.i64.wrap ((q : Int) + 1) = (q : Int) + 1 := IntWalk.i64_in _ (by omega)
            have ht1 : ((q : Int) + 1).toNat = q + 1 := by omega
            go_region_law (first
              | (refine step_append_own (by rfl) _ _ _ (by rfl) w4.heap.size 3 i0 (.int .i64 0) 1 8 Tq.underlying27 hi hz0 hz1 hz2 rfl Nat.one_pos (.slice (some ⟨w4.heap.size, 0, none⟩) 0 0) 0 [] (by rfl) hE.out ⟨g, 0, none⟩ q _ ((rest.take q).map (Value.int .i64)) (by rfl) L1.out P1.out (ints_one _) M1 N1 S1 ?_; intro v5 w5 hown5 hgrow5 _; simp only [Nat.zero_add, List.nil_append] at hown5; obtain ⟨a5, c5, rfl⟩ := owns_slice hown5; have C5 := Lib.hid (kept_cells hg4 hgrow5 hcs.out); have B5 := Lib.hid (kept_below hgrow5); have O5 := Lib.hid hown5; clear hown5 hgrow5)
              | (refine step_append_own (by rfl) _ _ _ (by rfl) w4.heap.size 3 i0 (.int .i64 0) 1 8 Tq.underlying27 hi hz0 hz1 hz2 rfl Nat.one_pos (.slice a5 q c5) q ((rest.take q).map (Value.int .i64)) (by rfl) O5.out ⟨g, q + 1, none⟩ (rest.length - (q + 1)) _ ((rest.drop (q + 1)).map (Value.int .i64)) (by rfl) L2.out (piece_rest rfl C5.out (q + 1) (q + 1) hq1 (Nat.zero_add _).symm) (ints_one _) M2 N2 B5.out.size ?_; intro v6 w6 hown6 hgrow6 _; obtain ⟨a6, c6, rfl⟩ := owns_slice hown6; have B6 := Lib.hid (B5.out.grown hgrow6 B5.out.size (fun j ej => (O5.out.lt j ej).1)); have X6 := Lib.hid hown6; clear hown6 hgrow6))
            all_goals
              clear hw1 ht1
              obtain ⟨m, hm⟩ : ∃ m, q + (rest.length - (q + 1)) = m := ⟨_, rfl⟩
              rw [hm] at X6 ⊢
              have hmr : rest.length - 1 = m := by omega
              have hms : m < rest.length := by omega
              have O6 := Lib.hid (lotsRow_low (owns_under HO4.out B6.out) (Nat.le_refl _))
              have hB6 := hB4.trans (B6.out.mono hB4.size)
              have hap6 : Hid (Apart (.slice a4 (out.length + 1) cap4) (.slice a6 m c6)) := by
                intro j h1 h2
                have e1 := (HO4.out.lt j h1).2
                have e2 := (X6.out.lt j h2).1
                omega
              have X7 := Lib.hid (lotsRow_low X6.out hB4.size)
              have hinv : LotInv w k s (.int .i64 (d : Int)) (.slice a6 m c6) (.slice a4 (out.length + 1) cap4) w6 := by
                unfold LotInv
                refine ⟨d, rest.eraseIdx q, out ++ [z], a6, c6, a4, cap4, by omega, rfl, ?g1, ?g2, ?g3, ?g4, ?g5, ?g6, ?g7, ?g8, hB6⟩
                case g1 => rw [HEL.out, hmr]
                case g2 => rw [List.length_append]; rfl
                case g3 => rw [HEL.out]; omega
                case g4 => rw [HEL.out, List.length_append, List.length_singleton]; omega
                case g5 => unfold Hid; rw [← hall.out, HST.out, HZ.out, List.append_assoc]; rfl
                case g6 => unfold Hid; rw [HEL.out, ← erase_parts, List.map_append]; have := X7.out; rwa [hmr]
                case g7 => unfold Hid; rw [List.length_append]; exact O6.out
                case g8 => unfold Hid; rw [HEL.out, List.length_append, hmr]; exact hap6.out
              have HINV := Lib.hid hinv
              clear hinv X6 X7 hap6 O6 B6 hmr hm hck2 hkci hkcc hck hzci hk1i hk0 M1 N1 S1 M2 N2 M2e N2e L1 L2 P1 hqc hq1
              simp only [List.getElem_toArray, List.getElem_cons_succ, List.getElem_cons_zero, Act.put, List.setIfInBounds_toArray, List.set_cons_succ, List.set_cons_zero]
              go_wp2
              go_roundw
              case rel => exact HINV.out
              case measure => simpa [sliceLen] using hms
        · have hr0 : rest = [] := List.length_eq_zero_iff.1 (by omega)
          subst hr0
          have HL : Hid (out = lotsOf k s) := by
            have h2 := hall.out
            rw [lotR_nil, List.append_nil] at h2
            exact h2
          have hok : out.length = k := by simpa using hsum
          go_wp2
          go_ret2
          refine ⟨a2, cap2, by first | rfl | (rw [← hok]; rfl), ?_, hB⟩
          rw [← HL.out, ← hok]
          exact ho2.out

set_option maxHeartbeats 1000000 in
/-- **spec.LotsOf**, at arguments out of range. -/
theorem specLotsOf_no (n s : Int) (w : World) (h : okLots n s = false) :
    Calls Tq.prog 126 #[.int .i64 n, .int .i64 s] w fun e w' => e = .returned (.tuple #[.slice (some ⟨w.heap.size, 0, none⟩) 0 0, .bool false]) ∧ w' = w.alloc (.cells #[] 3) := by
  cases hn : inB n 1 5
  · have HN := Lib.hid hn; clear hn h
    go_enter Tq.func126, Tq.ntmps126
    go_wp2_with fail
    refine (l6In_any _ _ _ _).mono ?_
    rintro e w' ⟨he, rfl⟩
    rw [HN.out] at he
    subst he
    go_wp2
    go_ret2
    exact ⟨rfl, rfl⟩
  · have hs : inB s 0 999 = false := by rw [okLots, hn, Bool.true_and] at h; exact h
    have HN := Lib.hid hn
    have HS := Lib.hid hs; clear hn hs h
    go_enter Tq.func126, Tq.ntmps126
    go_wp2_with fail
    refine (l6In_any _ _ _ _).mono ?_
    rintro e w' ⟨he, rfl⟩
    rw [HN.out] at he
    subst he
    go_wp2_with fail
    refine (l6In_any _ _ _ _).mono ?_
    rintro e w' ⟨he, rfl⟩
    rw [HS.out] at he
    subst he
    go_wp2
    go_ret2
    exact ⟨rfl, rfl⟩

/-- **spec.LotsOf**. -/
theorem specLotsOf_any (n s : Int) (w : World) :
    Calls Tq.prog 126 #[.int .i64 n, .int .i64 s] w (Told w (lotsI n s) (okLots n s)) := by
  cases h : okLots n s
  · refine (specLotsOf_no n s w h).mono ?_
    rintro e w' ⟨rfl, rfl⟩
    rw [lotsI_no h]
    exact ⟨_, 0, rfl, World.ownsRow_lit w #[] 0 (Nat.le_refl _) (by unfold maxLen; omega) rfl, (Below.refl _ w).alloc (Nat.le_refl _) _⟩
  · have hh := okLots_of h
    obtain ⟨m, rfl⟩ := Int.eq_ofNat_of_zero_le (show 0 ≤ n by omega)
    obtain ⟨q, rfl⟩ := Int.eq_ofNat_of_zero_le (show 0 ≤ s by omega)
    refine (specLotsOf_yes m q w (by omega) (by omega) (by omega)).mono ?_
    rintro e w' ⟨a, cap, rfl, ho, hb⟩
    have hl : (lotsI (m : Int) (q : Int)).length = m := by rw [lotsI_yes h, lotsOf_length, Int.toNat_natCast]
    refine ⟨a, cap, by rw [hl], ?_, hb⟩
    rw [hl, lotsI_yes h]; exact ho

/-- **spec.LotsOf**, its answer named. -/
theorem specLotsOf_as (n s : Int) (pl : List Int) (ok : Bool) (w : World) (h1 : lotsI n s = pl) (h2 : okLots n s = ok) :
    Calls Tq.prog 126 #[.int .i64 n, .int .i64 s] w (Told w pl ok) := by
  subst h1; subst h2; exact specLotsOf_any n s w

end Go.Proofs.Ytgkakgibgfehaaa

namespace Go.Proofs.Ytgkakgibgfehaaa
open Go.RowKit

theorem Step.of_below {R : Nat} {w w' : World} (hb : Below w.heap.size w w') : Step R w w' := ⟨hb.os, hb.tape, hb.output, hb.size, fun k hk _ => hb.block k hk⟩

/-- A shorter part of a list that is owned. -/
theorem owns_part {w : World} {base g n cap k : Nat} {xs : List Value} {e : TypeId} (h : w.ownsRow base e 1 (.slice (some ⟨g, 0, none⟩) n cap) n xs) (hk : k ≤ n) : w.ownsRow base e 1 (.slice (some ⟨g, 0, none⟩) k cap) k (xs.take k) := by
  have hl := h.1
  refine ⟨by simp; omega, ?_⟩
  rcases h.2 with ⟨e0, _⟩ | ⟨g', c, cur, e1, h1, h2, h3, h4, h5, h6⟩
  · cases e0
  · injection e1 with e2 _ e3
    injection e2 with e2
    injection e2 with e2
    subst e2; subst e3
    refine .inr ⟨g, cap, cur, rfl, h1, h2, by omega, h4, h5, ?_⟩
    rw [← h6, List.take_take]; congr 1; omega

/-- Lots that were drawn: in memory of the call's own; the reader has gone on. -/
def DrawnLots (R p : Nat) (w : World) (e : Ending) (w' : World) : Prop := ∃ (zs : List Int) (a : Option Addr) (cap p' : Nat), e = .returned (.slice a zs.length cap) ∧ w'.ownsRow w.heap.size 3 1 (.slice a zs.length cap) zs.length (zs.map (Value.int .i64)) ∧ zs.length ≤ 5 ∧ Rd w' R p' ∧ p' ≤ p + 10 ∧ Step R w w'

set_option maxRecDepth 100000 in
set_option maxHeartbeats 2000000 in
/-- **l91Lots**. -/
theorem l91Lots_any (R p : Nat) (n : Int) (w : World) (h : Rd w R p) (hp : p + 30 ≤ 1000000) :
    Calls Tq.prog 95 #[.pointer (some ⟨R, 0, none⟩), .int .i64 n] w (DrawnLots R p w) := by
  have hRw := h.1
  have H0 := Lib.hid h; clear h
  go_enter Tq.func95, Tq.ntmps95
  go_wp2_with fail
  refine (pick_any R p 256 _ H0.out (by omega) (by omega) (by omega)).mono ?_
  rintro e w1 ⟨c, rfl, hc, hr1, hs1⟩
  have R1 := Lib.hid hr1
  have S1 := Lib.hid hs1
  clear H0 hr1 hs1
  obtain ⟨pl, hpl⟩ : ∃ pl, lotsI n ((c : Int) * 3) = pl := ⟨_, rfl⟩
  obtain ⟨ok, hok⟩ : ∃ ok, okLots n ((c : Int) * 3) = ok := ⟨_, rfl⟩
  have hp5 : pl.length ≤ 5 := by rw [← hpl]; exact lotsI_short _ _
  have hp1 : ok = true → 1 ≤ pl.length := fun e => by
    rw [e] at hok
    have := okLots_of hok
    have := lotsI_length hok
    rw [hpl] at this
    omega
  have HP := Lib.hid hpl
  have HK := Lib.hid hok
  have hp1 := Lib.hid hp1
  clear hpl hok
  go_wp2_with fail
  refine (specLotsOf_as _ _ pl ok _ HP.out HK.out).mono ?_
  rintro e w2 ⟨a2, c2, rfl, ho, hb⟩
  have R2 := Lib.hid (R1.out.below hb)
  have S2 := Lib.hid (S1.out.trans (Step.of_below hb))
  have O2 := Lib.hid (ho.mono S1.out.size)
  clear ho hb R1
  cases hk : ok
  · subst hk
    go_wp2
    go_ret
    exact ⟨pl, a2, c2, p + 1, rfl, O2.out, hp5, R2.out, by omega, S2.out⟩
  · subst hk
    have hp1 := hp1.out rfl
    go_wp2_with fail
    refine (pick_any R (p + 1) 24 _ R2.out (by omega) (by omega) (by omega)).mono ?_
    rintro e w3 ⟨d, rfl, hd, hr3, hs3⟩
    have R3 := Lib.hid hr3
    have O3 := Lib.hid (owns_step O2.out hs3 hRw)
    have S3 := Lib.hid (S2.out.trans hs3)
    clear hr3 hs3 R2 O2 S2 S1
    by_cases hd0 : 0 < d
    · have hdd : decide (0 < (d : Int)) = true := decide_eq_true (by omega)
      go_wp2
      go_ret
      exact ⟨pl, a2, c2, p + 1 + 1, rfl, O3.out, hp5, R3.out, by omega, S3.out⟩
    · have hdd : decide (0 < (d : Int)) = false := decide_eq_false (by omega)
      go_wp2_with fail
      refine (pick_any R (p + 1 + 1) (pl.length : Int) _ R3.out (by omega) (by omega) (by omega)).mono ?_
      rintro e w4 ⟨k, rfl, hk4, hr4, hs4⟩
      have R4 := Lib.hid hr4
      have O4 := Lib.hid (owns_step O3.out hs4 hRw)
      have S4 := Lib.hid (S3.out.trans hs4)
      clear hr4 hs4 R3 O3 S3
      have hkn : k < pl.length := by omega
      obtain ⟨g, rfl, hgw, hcap, hmx⟩ := owned_at O4.out (by omega)
      go_wp2_with fail
      refine (pick_any R (p + 1 + 1 + 1) 2 _ R4.out (by omega) (by omega) (by omega)).mono ?_
      rintro e w5 ⟨q, rfl, hq5, hr5, hs5⟩
      have R5 := Lib.hid hr5
      have O5 := Lib.hid (owns_step O4.out hs5 hRw)
      have S5 := Lib.hid (S4.out.trans hs5)
      clear hr5 hs5 R4 O4 S4
      cases hq0 : ((q : Int) == 0)
      · go_wp2_with fail
        refine (pick_any R (p + 1 + 1 + 1 + 1) 7 _ R5.out (by omega) (by omega) (by omega)).mono ?_
        rintro e w6 ⟨x, rfl, hx6, hr6, hs6⟩
        have R6 := Lib.hid hr6
        have O6 := Lib.hid (owns_step O5.out hs6 hRw)
        have S6 := Lib.hid (S5.out.trans hs6)
        clear hr6 hs6 R5 O5 S5
        have hgb := (O6.out.lt g rfl).1
        have hcell : w6.cell? ⟨g, k, none⟩ = some (.int .i64 (pl[k]?.getD 0)) := by rw [O6.out.cellAt k (by omega)]; simp [hkn]
        obtain ⟨z, hz⟩ : ∃ z, pl[k]?.getD 0 = z := ⟨_, rfl⟩
        rw [hz] at hcell
        have hfz := O6.out.frozenAt k
        have HS := Lib.hid (O6.out.stored k (.int .i64 ((x : Int) - 1)))
        have HR7 : Hid (Rd (w6.setCell ⟨g, k, none⟩ (.int .i64 ((x : Int) - 1))) R (p + 1 + 1 + 1 + 1 + 1)) := R6.out.grown (row := some g) ⟨rfl, rfl, rfl, by simp [World.setCell], fun i hi hne => Below.heap_setCell _ _ _ _ (fun e => hne (by rw [e]))⟩ (fun j ej => by injection ej with ej; omega)
        have HS7 : Hid (Step R w (w6.setCell ⟨g, k, none⟩ (.int .i64 ((x : Int) - 1)))) := S6.out.grown (row := some g) ⟨rfl, rfl, rfl, by simp [World.setCell], fun i hi hne => Below.heap_setCell _ _ _ _ (fun e => hne (by rw [e]))⟩ (fun j ej => by injection ej with ej; omega)
        clear hz
        go_wp2
        go_ret
        refine ⟨pl.set k ((x : Int) - 1), some ⟨g, 0, none⟩, c2, p + 1 + 1 + 1 + 1 + 1, by rw [List.length_set]; rfl, ?_, by rw [List.length_set]; exact hp5, HR7.out, by omega, HS7.out⟩
        rw [List.length_set, List.map_set]
        exact HS.out.1
      · go_wp2
        go_ret
        have hlt : (pl.take k).length = k := by simp; omega
        refine ⟨pl.take k, some ⟨g, 0, none⟩, c2, p + 1 + 1 + 1 + 1, by rw [hlt]; rfl, ?_, by rw [hlt]; omega, R5.out, by omega, S5.out⟩
        rw [hlt, List.map_take]
        exact owns_part O5.out (by omega)

end Go.Proofs.Ytgkakgibgfehaaa

namespace Go.Proofs.Ytgkakgibgfehaaa
open Go.RowKit

attribute [local go_sem] Oper.semAt_some

/-- What is drawn of a contest. -/
def DrewC (w : World) (e : Ending) (w' : World) : Prop := ∃ (ps : List Pl) (g cap : Nat) (lots : List Int) (a : Option Addr) (c : Nat), e = .returned (.tuple #[.slice (some ⟨g, 0, none⟩) ps.length cap, .slice a lots.length c]) ∧
  HasP w w' ps g cap ∧ w'.ownsRow w.heap.size 3 1 (.slice a lots.length c) lots.length (lots.map (Value.int .i64)) ∧ lots.length ≤ 5 ∧ Below w.heap.size w w'

set_option maxRecDepth 100000 in
set_option maxHeartbeats 4000000 in
/-- **l91Contest**. -/
theorem l91Contest_any (R p : Nat) (w : World) (h : Rd w R p) (hp : p + 3054 ≤ 1000000) :
    Calls Tq.prog 56 #[.pointer (some ⟨R, 0, none⟩)] w fun e w' => ∃ (ps : List Pl) (g cap : Nat) (lots : List Int) (a : Option Addr) (c p' : Nat), e = .returned (.tuple #[.slice (some ⟨g, 0, none⟩) ps.length cap, .slice a lots.length c]) ∧
      w'.ownsRow w.heap.size 48 2 (.slice (some ⟨g, 0, none⟩) ps.length cap) ps.length (cellsP ps) ∧ Small ps ∧ Few ps ∧ ps.length ≤ 13 ∧ w'.ownsRow w.heap.size 3 1 (.slice a lots.length c) lots.length (lots.map (Value.int .i64)) ∧ lots.length ≤ 5 ∧ Rd w' R p' ∧ Step R w w' := by
  have hRw := h.1
  have H := Lib.hid h; clear h
  go_enter Tq.func56, Tq.ntmps56
  go_wp2_with fail
  refine (pick_any R p 5 _ H.out (by omega) (by omega) (by omega)).mono ?_
  rintro e w1 ⟨d, rfl, hd, hr, hs⟩
  have R1 := Lib.hid hr
  have S1 := Lib.hid hs
  clear hr hs H
  go_wp2_with fail
  refine (pick_any R (p + 1) 2 _ R1.out (by omega) (by omega) (by omega)).mono ?_
  rintro e w2 ⟨d2, rfl, hd2, hr, hs⟩
  have R2 := Lib.hid hr
  have S2 := Lib.hid (S1.out.trans hs)
  clear hr hs R1 S1
  obtain ⟨N, hN⟩ : ∃ N : Nat, (1 : Int) + (d : Int) = (N : Int) ∧ 1 ≤ N ∧ N ≤ 5 := ⟨1 + d, by omega, by omega, by omega⟩
  have e1 := hN.1
  have hN1 := hN.2.1
  have hN5 := hN.2.2
  clear hN
  cases h0 : ((d2 : Int) == 0)
  · go_wp2_with fail
    refine (l91Piles_any R (p + 1 + 1) (N : Int) _ R2.out (by omega) (by omega) (by omega)).mono ?_
    rintro e w3 ⟨ps, g, c, p3, rfl, ho, hsm, hf, hl13, hr3, hp3, hs3⟩
    have HO := Lib.hid (World.ownsRow.mono ho S2.out.size)
    have HS := Lib.hid (S2.out.trans hs3)
    have HM := Lib.hid hsm
    have HF := Lib.hid hf
    have HR := Lib.hid hr3
    clear ho hsm hf hr3 hs3 R2 S2
    go_wp2_with fail
    refine (pick_any R p3 20 _ HR.out (by omega) (by omega) (by omega)).mono ?_
    rintro e w4 ⟨d4, rfl, hd4, hr, hs⟩
    have HO4 := Lib.hid (owns_step HO.out hs hRw)
    have S4 := Lib.hid (HS.out.trans hs)
    have R4 := Lib.hid hr
    clear hr hs HO HS HR
    cases h4 : ((d4 : Int) == 0)
    · go_wp2_with fail
      refine (l91Lots_any R (p3 + 1) (N : Int) _ R4.out (by omega)).mono ?_
      rintro e w5 ⟨lots, a5, c5, p5, rfl, hol, hl5, hr5, hp5, hs5⟩
      have HO5 := Lib.hid (owns_step HO4.out hs5 hRw)
      have HL5 := Lib.hid (World.ownsRow.mono hol S4.out.size)
      have S5 := Lib.hid (S4.out.trans hs5)
      have R5 := Lib.hid hr5
      clear hol hs5 hr5 HO4 S4 R4
      go_wp2
      go_ret2
      exact ⟨ps, g, c, lots, a5, c5, p5, rfl, HO5.out, HM.out, HF.out, hl13, HL5.out, hl5, R5.out, S5.out⟩
    · go_wp2_with fail
      refine (pick_any R (p3 + 1) 5 _ R4.out (by omega) (by omega) (by omega)).mono ?_
      rintro e w6 ⟨d6, rfl, hd6, hr, hs⟩
      have HO6 := Lib.hid (owns_step HO4.out hs hRw)
      have S6 := Lib.hid (S4.out.trans hs)
      have R6 := Lib.hid hr
      clear hr hs HO4 S4 R4
      go_wp2_with fail
      refine (l91Lots_any R (p3 + 1 + 1) _ _ R6.out (by omega)).mono ?_
      rintro e w5 ⟨lots, a5, c5, p5, rfl, hol, hl5, hr5, hp5, hs5⟩
      have HO5 := Lib.hid (owns_step HO6.out hs5 hRw)
      have HL5 := Lib.hid (World.ownsRow.mono hol S6.out.size)
      have S5 := Lib.hid (S6.out.trans hs5)
      have R5 := Lib.hid hr5
      clear hol hs5 hr5 HO6 S6 R6
      go_wp2
      go_ret2
      exact ⟨ps, g, c, lots, a5, c5, p5, rfl, HO5.out, HM.out, HF.out, hl13, HL5.out, hl5, R5.out, S5.out⟩
  · go_wp2_with fail
    refine (l91Piles_any R (p + 1 + 1) 3 _ R2.out (by omega) (by omega) (by omega)).mono ?_
    rintro e w3 ⟨ps, g, c, p3, rfl, ho, hsm, hf, hl13, hr3, hp3, hs3⟩
    have HO := Lib.hid (World.ownsRow.mono ho S2.out.size)
    have HS := Lib.hid (S2.out.trans hs3)
    have HM := Lib.hid hsm
    have HF := Lib.hid hf
    have HR := Lib.hid hr3
    clear ho hsm hf hr3 hs3 R2 S2
    go_wp2_with fail
    refine (pick_any R p3 20 _ HR.out (by omega) (by omega) (by omega)).mono ?_
    rintro e w4 ⟨d4, rfl, hd4, hr, hs⟩
    have HO4 := Lib.hid (owns_step HO.out hs hRw)
    have S4 := Lib.hid (HS.out.trans hs)
    have R4 := Lib.hid hr
    clear hr hs HO HS HR
    cases h4 : ((d4 : Int) == 0)
    · go_wp2_with fail
      refine (l91Lots_any R (p3 + 1) 3 _ R4.out (by omega)).mono ?_
      rintro e w5 ⟨lots, a5, c5, p5, rfl, hol, hl5, hr5, hp5, hs5⟩
      have HO5 := Lib.hid (owns_step HO4.out hs5 hRw)
      have HL5 := Lib.hid (World.ownsRow.mono hol S4.out.size)
      have S5 := Lib.hid (S4.out.trans hs5)
      have R5 := Lib.hid hr5
      clear hol hs5 hr5 HO4 S4 R4
      go_wp2
      go_ret2
      exact ⟨ps, g, c, lots, a5, c5, p5, rfl, HO5.out, HM.out, HF.out, hl13, HL5.out, hl5, R5.out, S5.out⟩
    · go_wp2_with fail
      refine (pick_any R (p3 + 1) 5 _ R4.out (by omega) (by omega) (by omega)).mono ?_
      rintro e w6 ⟨d6, rfl, hd6, hr, hs⟩
      have HO6 := Lib.hid (owns_step HO4.out hs hRw)
      have S6 := Lib.hid (S4.out.trans hs)
      have R6 := Lib.hid hr
      clear hr hs HO4 S4 R4
      go_wp2_with fail
      refine (l91Lots_any R (p3 + 1 + 1) _ _ R6.out (by omega)).mono ?_
      rintro e w5 ⟨lots, a5, c5, p5, rfl, hol, hl5, hr5, hp5, hs5⟩
      have HO5 := Lib.hid (owns_step HO6.out hs5 hRw)
      have HL5 := Lib.hid (World.ownsRow.mono hol S6.out.size)
      have S5 := Lib.hid (S6.out.trans hs5)
      have R5 := Lib.hid hr5
      clear hol hs5 hr5 HO6 S6 R6
      go_wp2
      go_ret2
      exact ⟨ps, g, c, lots, a5, c5, p5, rfl, HO5.out, HM.out, HF.out, hl13, HL5.out, hl5, R5.out, S5.out⟩

end Go.Proofs.Ytgkakgibgfehaaa

namespace Go.Proofs.Ytgkakgibgfehaaa
open Go.RowKit

attribute [local go_sem] Oper.semAt_some

set_option maxHeartbeats 2000000 in
/-- **DrawPluralityMargin**. -/
theorem drawPlurM_any (a : Option Addr) (len cap : Nat) (bs : List Int) (w : World) (h : IsBytes w a len bs) (hcap : len ≤ cap) (hl : len ≤ 1048600) :
    Calls Tq.prog 24 #[.slice a len cap] w (DrewC w) := by
  have H := Lib.hid h; clear h
  go_enter Tq.func24, Tq.ntmps24
  go_wp2_with fail
  refine (open_any a len cap bs _ H.out hcap hl).mono ?_
  rintro e w1 ⟨rfl, hr, hb⟩
  have hw1 := hr.1
  go_wp2_with fail
  refine (l91Contest_any w.heap.size 0 _ hr (by omega)).mono ?_
  rintro e w2 ⟨ps, g, c, lots, a2, c2, p2, rfl, ho, hsm, hf, hl13, hol, hl5, hr2, hs⟩
  have HO := Lib.hid (ho.mono hb.size)
  have HL := Lib.hid (hol.mono hb.size)
  have HB := Lib.hid (hb.trans (hs.below (Nat.le_refl _) (Nat.le_of_lt hw1)))
  have HS := Lib.hid hsm
  have HF := Lib.hid hf
  clear ho hol hb hs hsm hf hr hr2
  go_wp2
  go_ret2
  exact ⟨ps, g, c, lots, a2, c2, rfl, ⟨HO.out, HS.out, HF.out, hl13⟩, HL.out, hl5, HB.out⟩

end Go.Proofs.Ytgkakgibgfehaaa

