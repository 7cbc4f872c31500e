/-
  What XDepthWinnerOneLW need besides: of XOpen, XFirstP, XByteI, XPiles, XSumP, XCountP, XLotP, XWinP, XPlurP, XDepthP, XPtsP, XMergeS, XTotS, XGreatP, XLotQ, XLotI, XGreatI, XLotS, XLotN, XPlurI, XPtR, XPtS, XPieces, XMost, XPtT, XPtW, XPtX, XPtI, XPtV, XDrawPd, XLotOS, XDrawLo, XDrawCt, XFracP.
-/
import Derived.Test.YtgkakgibgfehaaaSh3
import Derived.Test.YtgkakgibgfehaaaSh7
import Derived.Test.YtgkakgibgfehaaaSh26
import Derived.Test.YtgkakgibgfehaaaFaO
import Derived.ProofKit
import Derived.OpenShut
import Derived.ShutString
import Derived.ChangeOld
import Derived.Below
import Derived.Deep.Grids
import Derived.Laws.BytesArg
import Derived.Laws.Concat
import Derived.Maps.AppendAt
import Derived.StillTailTactics
import Derived.Maps.RangeWalk
import Derived.Deep.RegionLaw
import Derived.Laws.EntriesVeiled
import Derived.Shelf.Abstract
import Derived.Deep.AppendLies
namespace Go.Proofs.Ytgkakgibgfehaaa
open Go.RowKit

end Go.Proofs.Ytgkakgibgfehaaa

namespace Go.Proofs.Ytgkakgibgfehaaa

theorem firstL_none (zs : List Int) (n : Nat) : firstL zs (List.replicate n false) = zs.head?.getD (-1) := by
  cases zs with
  | nil => rfl
  | cons z t =>
    unfold firstL
    rw [if_neg (by rw [List.getElem?_replicate]; split <;> simp)]
    rfl

end Go.Proofs.Ytgkakgibgfehaaa

namespace Go.Proofs.Ytgkakgibgfehaaa
open Go.RowKit Go.Shelf

/-- A candidate's number. -/
abbrev C5 := { z : Int // 0 ≤ z ∧ z < 5 }

end Go.Proofs.Ytgkakgibgfehaaa

namespace Go.Proofs.Ytgkakgibgfehaaa
open Go.RowKit

end Go.Proofs.Ytgkakgibgfehaaa

namespace Go.Proofs.Ytgkakgibgfehaaa

theorem wsum_nonneg {f : ByteArray → Int} {ps : List Pl} (h : ∀ p ∈ ps, 0 ≤ f p.1) (hp : ∀ p ∈ ps, 1 ≤ p.2) : 0 ≤ wsum f ps := by
  have := wsum_le (f := fun _ => 0) h hp
  rwa [wsum_zero] at this
end Go.Proofs.Ytgkakgibgfehaaa

namespace Go.Proofs.Ytgkakgibgfehaaa

theorem counts_low {ps : List Pl} {L : List Bool} {k : Nat} (hk : k < L.length) (hp : ∀ p ∈ ps, 1 ≤ p.2) : 0 ≤ (countsL ps L)[k]?.getD 0 := by
  rw [countsL_at _ _ hk]
  exact wsum_nonneg (fun p _ => oneF_low _ _ _) hp
end Go.Proofs.Ytgkakgibgfehaaa

namespace Go.Proofs.Ytgkakgibgfehaaa

/-- Lots are valid. -/
def lotsB (zs : List Int) : Bool := validB zs (zs.length : Int)
theorem lotsB_len {zs : List Int} (h : lotsB zs = true) : 1 ≤ zs.length ∧ zs.length ≤ 5 := by have := vB_mem h; omega
/-- The lots that a seed draws out of a list; 'f' bounds the draws. -/
def lotL : Nat → List Int → Nat → List Int
  | 0, _, _ => []
  | f + 1, rest, seed => if rest.length = 0 then [] else rest[seed % rest.length]?.getD 0 :: lotL f (rest.eraseIdx (seed % rest.length)) (seed / rest.length)
theorem lotL_nil (f seed : Nat) : lotL f [] seed = [] := by cases f <;> rfl
theorem lotL_step (f : Nat) (rest : List Int) (seed : Nat) (h : rest.length ≠ 0) : lotL (f + 1) rest seed = rest[seed % rest.length]?.getD 0 :: lotL f (rest.eraseIdx (seed % rest.length)) (seed / rest.length) := by rw [lotL, if_neg h]
theorem lotL_length : ∀ (f : Nat) (rest : List Int) (seed : Nat), rest.length ≤ f → (lotL f rest seed).length = rest.length
  | 0, rest, seed, h => by simp [lotL]; omega
  | f + 1, rest, seed, h => by
    by_cases h0 : rest.length = 0
    · rw [List.length_eq_zero_iff.1 h0, lotL_nil]
    · have hm := Nat.mod_lt seed (show 0 < rest.length by omega)
      have he : (rest.eraseIdx (seed % rest.length)).length = rest.length - 1 := by rw [List.length_eraseIdx, if_pos hm]
      rw [lotL_step f rest seed h0, List.length_cons, lotL_length f _ _ (by omega), he]; omega
/-- All candidates in ascending order. -/
def fromZero (n : Nat) : List Int := (List.range n).map fun (i : Nat) => (i : Int)
theorem fromZero_length (n : Nat) : (fromZero n).length = n := by simp [fromZero]
theorem fromZero_succ (n : Nat) : fromZero (n + 1) = fromZero n ++ [(n : Int)] := by simp [fromZero, List.range_succ]
/-- What LotsOf returns for n candidates. -/
def lotsOf (n seed : Nat) : List Int := lotL n (fromZero n) seed
theorem lotsOf_length (n seed : Nat) : (lotsOf n seed).length = n := by rw [lotsOf, lotL_length _ _ _ (by rw [fromZero_length]; exact Nat.le_refl _), fromZero_length]
/-- The first of the lots for whom 'some' is true, or -1. -/
def pickL : List Int → List Bool → Int
  | [], _ => -1
  | z :: t, L => if L[z.toNat]?.getD false = true then z else pickL t L

end Go.Proofs.Ytgkakgibgfehaaa

namespace Go.Proofs.Ytgkakgibgfehaaa

/-- The greatest of the first k counts of some, or -1. -/
def bestS (c : List Int) (s : List Bool) (k : Nat) : Int := (List.range k).foldl (fun (b : Int) (i : Nat) => if s[i]?.getD false = true then max b (c[i]?.getD 0) else b) (-1)
theorem bestS_zero (c : List Int) (s : List Bool) : bestS c s 0 = -1 := rfl
theorem bestS_succ (c : List Int) (s : List Bool) (k : Nat) : bestS c s (k + 1) = if s[k]?.getD false = true then max (bestS c s k) (c[k]?.getD 0) else bestS c s k := by
  simp [bestS, List.range_succ]
theorem bestS_ge {c : List Int} {s : List Bool} {k i : Nat} (h : i < k) (hs : s[i]?.getD false = true) : c[i]?.getD 0 ≤ bestS c s k := by
  induction k with
  | zero => omega
  | succ k ih =>
    rw [bestS_succ]
    by_cases e : i = k
    · subst e; rw [if_pos hs]; omega
    · have := ih (by omega)
      split <;> omega
theorem bestS_hit (c : List Int) (s : List Bool) (k : Nat) : bestS c s k = -1 ∨ ∃ i, i < k ∧ s[i]?.getD false = true ∧ c[i]?.getD 0 = bestS c s k := by
  induction k with
  | zero => exact .inl rfl
  | succ k ih =>
    rw [bestS_succ]
    by_cases hs : s[k]?.getD false = true
    · rw [if_pos hs]
      rcases ih with ih | ⟨i, hi, h1, h2⟩
      · by_cases g : c[k]?.getD 0 ≤ -1
        · left; omega
        · right; exact ⟨k, by omega, hs, by omega⟩
      · by_cases g : c[k]?.getD 0 ≤ bestS c s k
        · right; exact ⟨i, by omega, h1, by omega⟩
        · right; exact ⟨k, by omega, hs, by omega⟩
    · rw [if_neg hs]
      rcases ih with ih | ⟨i, hi, h1, h2⟩
      · exact .inl ih
      · exact .inr ⟨i, by omega, h1, h2⟩
/-- Who has the greatest of some counts. -/
def mostL (c : List Int) (s : List Bool) : List Bool := (List.range c.length).map fun i => s[i]?.getD false && (c[i]?.getD 0 == bestS c s c.length)
theorem mostL_length (c : List Int) (s : List Bool) : (mostL c s).length = c.length := by simp [mostL]
theorem mostL_at {c : List Int} {s : List Bool} {i : Nat} (h : i < c.length) : (mostL c s)[i]?.getD false = true ↔ s[i]?.getD false = true ∧ c[i]?.getD 0 = bestS c s c.length := by
  simp [mostL, h]

/-- The first one of some in an order. -/
theorem pickL_spec {l : List Int} {L : List Bool} (h : ∃ z ∈ l, L[z.toNat]?.getD false = true) : pickL l L ∈ l ∧ L[(pickL l L).toNat]?.getD false = true ∧ ∀ u ∈ l, L[u.toNat]?.getD false = true → l.idxOf (pickL l L) ≤ l.idxOf u := by
  induction l with
  | nil => obtain ⟨z, hz, _⟩ := h; cases hz
  | cons a t ih =>
    unfold pickL
    by_cases ha : L[a.toNat]?.getD false = true
    · rw [if_pos ha]
      exact ⟨by simp, ha, fun u _ _ => by simp [List.idxOf_cons]⟩
    · rw [if_neg ha]
      obtain ⟨z, hz, hzL⟩ := h
      have hz' : z ∈ t := by
        rcases List.mem_cons.1 hz with e | e
        · subst e; exact absurd hzL ha
        · exact e
      obtain ⟨i1, i2, i3⟩ := ih ⟨z, hz', hzL⟩
      refine ⟨by simp [i1], i2, fun u hu huL => ?_⟩
      have hau : ¬ a = u := fun e => ha (by rw [e]; exact huL)
      have hap : ¬ a = pickL t L := fun e => ha (by rw [e]; exact i2)
      have hu' : u ∈ t := by
        rcases List.mem_cons.1 hu with e | e
        · exact absurd e.symm hau
        · exact e
      have := i3 u hu' huL
      rw [List.idxOf_cons, List.idxOf_cons]
      simp only [beq_eq_false_iff_ne.2 hau, beq_eq_false_iff_ne.2 hap, cond_false]
      omega

/-- **w has the greatest of some counts**, and comes first in the lots among those who have as many. -/
def IsWin (c : List Int) (s : List Bool) (lots : List Int) (w : Int) : Prop :=
  w ∈ lots ∧ s[w.toNat]?.getD false = true ∧ ∀ i ∈ lots, s[i.toNat]?.getD false = true → c[i.toNat]?.getD 0 < c[w.toNat]?.getD 0 ∨ (c[i.toNat]?.getD 0 = c[w.toNat]?.getD 0 ∧ lots.idxOf w ≤ lots.idxOf i)
theorem lots_mem {lots : List Int} (h : lotsB lots = true) {i : Nat} (hi : i < lots.length) : (i : Int) ∈ lots := by
  have hm := vB_mem h
  have hd := vB_nodup h
  by_cases e : (i : Int) ∈ lots
  · exact e
  · have hnd : ((i : Int) :: lots).Nodup := List.nodup_cons.2 ⟨e, hd⟩
    have := few_of lots.length ((i : Int) :: lots) hnd (fun z hz => by
      rcases List.mem_cons.1 hz with g | g
      · subst g; omega
      · exact hm.2.2 z g)
    simp at this
    omega
/-- **The pick is the one.** -/
theorem win_pick {c : List Int} {s : List Bool} {lots : List Int} (hl : lotsB lots = true) (hc : c.length = lots.length) (h0 : ∀ i, i < c.length → 0 ≤ c[i]?.getD 0) (hs : ∃ i, i < c.length ∧ s[i]?.getD false = true) : IsWin c s lots (pickL lots (mostL c s)) := by
  have hm := vB_mem hl
  have hN : ∀ z ∈ lots, z.toNat < c.length := fun z hz => by have := hm.2.2 z hz; omega
  obtain ⟨j, hj, hsj⟩ := hs
  have hb := bestS_hit c s c.length
  have hge := bestS_ge (c := c) hj hsj
  have h0j := h0 j hj
  rcases hb with hb | ⟨i, hi, h1, h2⟩
  · omega
  · obtain ⟨p1, p2, p3⟩ := pickL_spec (l := lots) (L := mostL c s) ⟨(i : Int), lots_mem hl (by omega), by rw [Int.toNat_natCast, mostL_at hi]; exact ⟨h1, h2⟩⟩
    have hp := (mostL_at (hN _ p1)).1 p2
    refine ⟨p1, hp.1, fun u hu hsu => ?_⟩
    have hg := bestS_ge (c := c) (hN u hu) hsu
    by_cases e : c[u.toNat]?.getD 0 = bestS c s c.length
    · exact .inr ⟨by omega, p3 u hu ((mostL_at (hN u hu)).2 ⟨hsu, e⟩)⟩
    · exact .inl (by omega)

/-! ### Two candidates exchanged. -/
end Go.Proofs.Ytgkakgibgfehaaa

namespace Go.Proofs.Ytgkakgibgfehaaa

/-- Nobody has left. -/
def noneL (n : Nat) : List Bool := List.replicate n false
def allL (n : Nat) : List Bool := List.replicate n true
theorem allL_at {n k : Nat} (h : k < n) : (allL n)[k]?.getD false = true := by
  unfold allL; rw [List.getElem?_replicate, if_pos h]; rfl
theorem noneL_length (n : Nat) : (noneL n).length = n := by simp [noneL]
def plurC (ps : List Pl) (n : Nat) : List Int := countsL ps (noneL n)
theorem plurC_length (ps : List Pl) (n : Nat) : (plurC ps n).length = n := by rw [plurC, countsL_length, noneL_length]
theorem plurC_low {ps : List Pl} (hp : ∀ p ∈ ps, 1 ≤ p.2) {n k : Nat} (hk : k < n) : 0 ≤ (plurC ps n)[k]?.getD 0 := counts_low (by rw [noneL_length]; exact hk) hp
/-- The winner. -/
def winL (ps : List Pl) (lots : List Int) : Int := pickL lots (mostL (plurC ps lots.length) (allL lots.length))
theorem win_is {ps : List Pl} {lots : List Int} (hl : lotsB lots = true) (hp : ∀ p ∈ ps, 1 ≤ p.2) : IsWin (plurC ps lots.length) (allL lots.length) lots (winL ps lots) := by
  have hn := lotsB_len hl
  refine win_pick hl (plurC_length _ _) (fun i hi => ?_) ⟨0, ?_, allL_at (by omega)⟩
  · rw [plurC_length] at hi
    exact plurC_low hp hi
  · rw [plurC_length]; omega
theorem winL_range {ps : List Pl} {lots : List Int} (hl : lotsB lots = true) (hp : ∀ p ∈ ps, 1 ≤ p.2) : 0 ≤ winL ps lots ∧ winL ps lots < (lots.length : Int) := (vB_mem hl).2.2 _ (win_is hl hp).1

end Go.Proofs.Ytgkakgibgfehaaa

namespace Go.Proofs.Ytgkakgibgfehaaa

/-- Whether k is among the first d ones of a text. -/
def depF (d k : Nat) (t : ByteArray) : Int := if (k : Int) ∈ (parseL t).take d then 1 else 0
def depL (ps : List Pl) (n d : Nat) : List Int := (List.range n).map fun k => wsum (depF d k) ps
theorem depL_length (ps : List Pl) (n d : Nat) : (depL ps n d).length = n := by simp [depL]
theorem depL_one (ps : List Pl) (n : Nat) : depL ps n 1 = plurC ps n := by
  refine List.ext_getElem (by rw [depL_length, plurC_length]) (fun i h1 h2 => ?_)
  simp only [depL, plurC, countsL, List.getElem_map, List.getElem_range]
  refine wsum_congr (fun p _ => ?_)
  unfold depF oneF
  rw [noneL, firstL_none]
  cases parseL p.1 with
  | nil => simp
  | cons z t =>
    by_cases e : z = (i : Int)
    · rw [if_pos (show (i : Int) ∈ (z :: t).take 1 by simp [e]), if_pos (show (z :: t).head?.getD (-1) = (i : Int) from e)]
    · rw [if_neg (show ¬ (i : Int) ∈ (z :: t).take 1 by simp only [List.take_succ_cons, List.take_zero, List.mem_singleton]; exact fun g => e g.symm), if_neg (show ¬ (z :: t).head?.getD (-1) = (i : Int) from e)]
/-- A count is more than half of all ballots. -/
def overL (c : List Int) (total : Int) : Bool := c.any fun z => decide (total < 2 * z)
/-- The least depth with a majority, from d on; f bounds the search. -/
def depFrom (ps : List Pl) (n : Nat) : Nat → Nat → Nat
  | 0, d => d
  | f + 1, d => if d < n ∧ overL (depL ps n d) (sumL ps) = false then depFrom ps n f (d + 1) else d
def depAt (ps : List Pl) (n : Nat) : Nat := depFrom ps n n 1
theorem depFrom_spec {ps : List Pl} {n : Nat} : ∀ (f d : Nat), d ≤ n → n ≤ d + f → d ≤ depFrom ps n f d ∧ depFrom ps n f d ≤ n ∧ (depFrom ps n f d < n → overL (depL ps n (depFrom ps n f d)) (sumL ps) = true) ∧ ∀ j, d ≤ j → j < depFrom ps n f d → overL (depL ps n j) (sumL ps) = false
  | 0, d, h1, h2 => by
    unfold depFrom
    exact ⟨Nat.le_refl _, h1, fun h => by omega, fun j a b => by omega⟩
  | f + 1, d, h1, h2 => by
    unfold depFrom
    by_cases h : d < n ∧ overL (depL ps n d) (sumL ps) = false
    · rw [if_pos h]
      obtain ⟨i1, i2, i3, i4⟩ := depFrom_spec (ps := ps) (n := n) f (d + 1) (by omega) (by omega)
      refine ⟨by omega, i2, i3, fun j a b => ?_⟩
      by_cases e : j = d
      · subst e; exact h.2
      · exact i4 j (by omega) b
    · rw [if_neg h]
      refine ⟨Nat.le_refl _, h1, fun g => ?_, fun j a b => by omega⟩
      cases e : overL (depL ps n d) (sumL ps)
      · exact absurd ⟨g, e⟩ h
      · rfl
theorem overL_no {c : List Int} {total : Int} (h : overL c total = false) {i : Nat} (hi : i < c.length) : 2 * c[i]?.getD 0 ≤ total := by
  have e : c[i]?.getD 0 = c[i] := by simp [hi]
  rw [overL, List.any_eq_false] at h
  have := h c[i] (List.getElem_mem _)
  rw [e]
  simpa using this
def depW (ps : List Pl) (lots : List Int) : Int := pickL lots (mostL (depL ps lots.length (depAt ps lots.length)) (allL lots.length))
/-- **A majority wins at once.** -/
theorem dep_one {ps : List Pl} {lots : List Int} (hl : lotsB lots = true) (hp : ∀ p ∈ ps, 1 ≤ p.2) : (depAt ps lots.length = 1 → depW ps lots = winL ps lots) ∧ (sumL ps < 2 * (plurC ps lots.length)[(winL ps lots).toNat]?.getD 0 → depAt ps lots.length = 1) := by
  have hn := lotsB_len hl
  have hr := winL_range hl hp
  obtain ⟨h1, h2, _, h4⟩ := depFrom_spec (ps := ps) (n := lots.length) lots.length 1 hn.1 (by omega)
  refine ⟨fun e => by unfold depW winL; rw [e, depL_one], fun h => ?_⟩
  rcases Nat.lt_or_ge 1 (depAt ps lots.length) with g | g
  · have := h4 1 (Nat.le_refl _) g
    have := overL_no this (i := (winL ps lots).toNat) (by rw [depL_length]; omega)
    rw [depL_one] at this
    omega
  · have : 1 ≤ depAt ps lots.length := h1
    omega

end Go.Proofs.Ytgkakgibgfehaaa

namespace Go.Proofs.Ytgkakgibgfehaaa

/-- What a text gives to x, if the place i is worth P i. -/
def ptF (P : Nat → Int) (x : Nat) (t : ByteArray) : Int := if (x : Int) ∈ parseL t then P ((parseL t).idxOf (x : Int)) else 0
def ptL (P : Nat → Int) (ps : List Pl) (n : Nat) : List Int := (List.range n).map fun x => wsum (ptF P x) ps
theorem ptL_length (P : Nat → Int) (ps : List Pl) (n : Nat) : (ptL P ps n).length = n := by simp [ptL]
theorem ptL_at (P : Nat → Int) (ps : List Pl) {n x : Nat} (h : x < n) : (ptL P ps n)[x]?.getD 0 = wsum (ptF P x) ps := by simp [ptL, h]
theorem ptL_nil (P : Nat → Int) (n : Nat) : ptL P [] n = List.replicate n 0 := by
  refine List.ext_getElem (by simp [ptL]) (fun i h1 h2 => ?_)
  simp [ptL, wsum_nil]
/-- The counts after the first i names of a ballot. -/
def addTo (P : Nat → Int) (m : Int) (zs : List Int) : Nat → List Int → List Int
  | 0, cs => cs
  | i + 1, cs => (addTo P m zs i cs).set (zs[i]?.getD 0).toNat ((addTo P m zs i cs)[(zs[i]?.getD 0).toNat]?.getD 0 + m * P i)
theorem addTo_zero (P : Nat → Int) (m : Int) (zs cs : List Int) : addTo P m zs 0 cs = cs := rfl
theorem addTo_succ (P : Nat → Int) (m : Int) (zs : List Int) (i : Nat) (cs : List Int) : addTo P m zs (i + 1) cs = (addTo P m zs i cs).set (zs[i]?.getD 0).toNat ((addTo P m zs i cs)[(zs[i]?.getD 0).toNat]?.getD 0 + m * P i) := rfl
theorem addTo_length (P : Nat → Int) (m : Int) (zs : List Int) (i : Nat) (cs : List Int) : (addTo P m zs i cs).length = cs.length := by
  induction i with
  | zero => rfl
  | succ i ih => rw [addTo_succ, List.length_set, ih]
theorem addTo_at {P : Nat → Int} {m : Int} {zs : List Int} (hd : zs.Nodup) (hz : ∀ z ∈ zs, 0 ≤ z) (cs : List Int) {x : Nat} (hx : x < cs.length) : ∀ i, i ≤ zs.length → (addTo P m zs i cs)[x]?.getD 0 = cs[x]?.getD 0 + m * (if (x : Int) ∈ zs ∧ zs.idxOf (x : Int) < i then P (zs.idxOf (x : Int)) else 0)
  | 0, _ => by rw [if_neg (fun h => absurd h.2 (Nat.not_lt_zero _)), Int.mul_zero, Int.add_zero]; rfl
  | i + 1, hi => by
    have ih := addTo_at (P := P) (m := m) hd hz cs hx i (by omega)
    have hlt : i < zs.length := by omega
    have e : zs[i]?.getD 0 = zs[i] := by simp [hlt]
    have hz0 := hz _ (List.getElem_mem hlt)
    have hix : zs.idxOf zs[i] = i := hd.idxOf_getElem i hlt
    rw [addTo_succ, e]
    by_cases g : zs[i].toNat = x
    · have gx : zs[i] = (x : Int) := by omega
      have hin : (x : Int) ∈ zs := by rw [← gx]; exact List.getElem_mem hlt
      rw [gx] at hix
      rw [g, List.getElem?_set_self (by rw [addTo_length]; exact hx)]
      rw [ih, hix, if_neg (fun h => absurd h.2 (Nat.lt_irrefl _)), if_pos ⟨hin, Nat.lt_succ_self _⟩]
      simp
    · rw [List.getElem?_set_ne g, ih]
      by_cases h : (x : Int) ∈ zs
      · have hne : zs.idxOf (x : Int) ≠ i := by
          intro e2
          have h2 := List.getElem_idxOf (List.idxOf_lt_length_iff.2 h)
          simp only [e2] at h2
          rw [h2] at g
          exact g (by simp)
        by_cases h3 : zs.idxOf (x : Int) < i
        · rw [if_pos ⟨h, h3⟩, if_pos ⟨h, by omega⟩]
        · rw [if_neg (fun q => h3 q.2), if_neg (fun q => by have := q.2; omega)]
      · rw [if_neg (fun q => h q.1), if_neg (fun q => h q.1)]
/-- **One pile more.** -/
theorem ptL_next {P : Nat → Int} {ps : List Pl} {n k : Nat} (hk : k < ps.length) (hv : validB (parseL (tAt ps k)) (n : Int) = true) : addTo P (mAt ps k) (parseL (tAt ps k)) (parseL (tAt ps k)).length (ptL P (ps.take k) n) = ptL P (ps.take (k + 1)) n := by
  have hm := (vB_mem hv).2.2
  refine List.ext_getElem (by rw [addTo_length, ptL_length, ptL_length]) (fun x h1 h2 => ?_)
  have hx : x < n := by rwa [ptL_length] at h2
  have e1 := addTo_at (P := P) (m := mAt ps k) (vB_nodup hv) (fun z hz => (hm z hz).1) (ptL P (ps.take k) n) (x := x) (by rw [ptL_length]; exact hx) _ (Nat.le_refl _)
  have e2 := ptL_at P (ps.take (k + 1)) hx
  have et : ps.take (k + 1) = ps.take k ++ [(tAt ps k, mAt ps k)] := by
    have e0 : (tAt ps k, mAt ps k) = ps[k] := by simp [tAt, mAt, hk]
    rw [List.take_succ_eq_append_getElem hk, e0]
  rw [et, wsum_snoc, ← ptL_at P (ps.take k) hx] at e2
  have g1 : (addTo P (mAt ps k) (parseL (tAt ps k)) (parseL (tAt ps k)).length (ptL P (ps.take k) n))[x]?.getD 0 = (addTo P (mAt ps k) (parseL (tAt ps k)) (parseL (tAt ps k)).length (ptL P (ps.take k) n))[x] := by simp [h1]
  have g2 : (ptL P (ps.take (k + 1)) n)[x]?.getD 0 = (ptL P (ps.take (k + 1)) n)[x] := by simp [h2]
  rw [← g1, ← g2, e1, et, e2]
  refine congrArg (fun z => (ptL P (ps.take k) n)[x]?.getD 0 + z) ?_
  unfold ptF
  by_cases h : (x : Int) ∈ parseL (tAt ps k)
  · rw [if_pos h, if_pos ⟨h, List.idxOf_lt_length_iff.2 h⟩, Int.mul_comm]
  · rw [if_neg h, if_neg (fun q => h q.1)]; simp
/-- Names behind the last one that counts change nothing. -/
theorem addTo_stop {P : Nat → Int} {m : Int} {zs : List Int} {d : Nat} (hP : ∀ i, d ≤ i → P i = 0) (cs : List Int) : ∀ i, d ≤ i → addTo P m zs i cs = addTo P m zs d cs
  | 0, h => by rw [Nat.le_zero.1 h]
  | i + 1, h => by
    by_cases e : d = i + 1
    · rw [e]
    · have ih := addTo_stop (P := P) (m := m) (zs := zs) hP cs i (by omega)
      rw [addTo_succ, hP i (by omega), ih, Int.mul_zero, Int.add_zero]
      refine List.ext_getElem (by simp) (fun j h1 h2 => ?_)
      by_cases g : (zs[i]?.getD 0).toNat = j
      · subst g
        simp [h2]
      · rw [List.getElem_set_ne g]
theorem addTo_bound {P : Nat → Int} {m : Int} {zs : List Int} {cs : List Int} {B : Int} {n : Nat} (hm : 0 ≤ m ∧ m ≤ 99) (hP : ∀ i, i < n → 0 ≤ P i ∧ P i ≤ 5) (hc : ∀ x : Nat, 0 ≤ cs[x]?.getD 0 ∧ cs[x]?.getD 0 ≤ B) : ∀ i, i ≤ n → ∀ x : Nat, 0 ≤ (addTo P m zs i cs)[x]?.getD 0 ∧ (addTo P m zs i cs)[x]?.getD 0 ≤ B + 495 * i
  | 0, _, x => by have := hc x; rw [addTo_zero]; omega
  | i + 1, h, x => by
    have ih := addTo_bound (zs := zs) hm hP hc i (by omega)
    have hp := hP i (by omega)
    have h0 : 0 ≤ m * P i := Int.mul_nonneg hm.1 hp.1
    have h1 : m * P i ≤ 99 * 5 := Int.mul_le_mul hm.2 hp.2 hp.1 (by omega)
    rw [addTo_succ]
    by_cases g : (zs[i]?.getD 0).toNat = x
    · rw [g]
      have := ih x
      by_cases gx : x < (addTo P m zs i cs).length
      · rw [List.getElem?_set_self gx]
        simp only [Option.getD_some]
        omega
      · rw [List.getElem?_eq_none (by rw [List.length_set]; omega)]
        have := hc x
        simp only [Option.getD_none]
        omega
    · rw [List.getElem?_set_ne g]
      have := ih x
      omega
theorem ptF_bound {P : Nat → Int} {n : Nat} (hP : ∀ i, i < n → 0 ≤ P i ∧ P i ≤ 5) (x : Nat) {t : ByteArray} (ht : (parseL t).length ≤ n) : 0 ≤ ptF P x t ∧ ptF P x t ≤ 5 := by
  unfold ptF
  by_cases g : (x : Int) ∈ parseL t
  · rw [if_pos g]; exact hP _ (Nat.lt_of_lt_of_le (List.idxOf_lt_length_iff.2 g) ht)
  · rw [if_neg g]; omega
theorem ptL_bound {P : Nat → Int} {n : Nat} (hP : ∀ i, i < n → 0 ≤ P i ∧ P i ≤ 5) {ps : List Pl} (hp : fitsB ps (n : Int) = true) (k x : Nat) : 0 ≤ (ptL P (ps.take k) n)[x]?.getD 0 ∧ (ptL P (ps.take k) n)[x]?.getD 0 ≤ 5940 := by
  obtain ⟨hpv, hv⟩ := fits_both hp
  have h := pilesB_pos hpv
  by_cases hx : x < n
  · rw [ptL_at P _ hx]
    have := wsum_bound (f := ptF P x) (ps := ps.take k) (fun p hm => by
      have hm' := List.mem_of_mem_take hm
      have h2 := hv _ hm'
      have h3 := vB_short h2.2
      have h4 := h.2.1 _ hm'
      have h5 := h.2.2.1 _ hm'
      refine ⟨ptF_bound hP x (by rw [parseL_ok h2.1]; omega), by omega, by omega⟩)
    have hl : (ps.take k).length ≤ 12 := Nat.le_trans (by rw [List.length_take]; exact Nat.min_le_right _ _) h.2.2.2.2
    omega
  · rw [List.getElem?_eq_none (by rw [ptL_length]; omega)]
    simp

/-- Depths, places and last places are points. -/
def depP (d : Nat) (i : Nat) : Int := if i < d then 1 else 0
def plaP (n : Nat) (i : Nat) : Int := (n : Int) - 1 - (i : Int)
def lasP (n : Nat) (i : Nat) : Int := if i = n - 1 then 1 else 0
theorem take_iff {z : Int} : ∀ {zs : List Int} {d : Nat}, z ∈ zs.take d ↔ z ∈ zs ∧ zs.idxOf z < d
  | [], d => by simp
  | a :: t, 0 => by simp
  | a :: t, d + 1 => by
    rw [List.take_succ_cons, List.mem_cons, List.mem_cons, List.idxOf_cons]
    by_cases e : a = z
    · simp [e]
    · rw [beq_eq_false_iff_ne.2 e, cond_false, take_iff]
      constructor
      · rintro (h | ⟨h1, h2⟩)
        · exact absurd h.symm e
        · exact ⟨.inr h1, by omega⟩
      · rintro ⟨h | h, h2⟩
        · exact absurd h.symm e
        · exact .inr ⟨h, by omega⟩
theorem dep_pts (ps : List Pl) (n d : Nat) : depL ps n d = ptL (depP d) ps n := by
  unfold depL ptL
  refine List.map_congr_left (fun x _ => wsum_congr (fun p _ => ?_))
  unfold depF ptF depP
  by_cases h : (x : Int) ∈ (parseL p.1).take d
  · have := take_iff.1 h
    rw [if_pos h, if_pos this.1, if_pos this.2]
  · rw [if_neg h]
    by_cases g : (x : Int) ∈ parseL p.1
    · rw [if_pos g, if_neg (fun q => h (take_iff.2 ⟨g, q⟩))]
    · rw [if_neg g]
theorem depP_bound (d n : Nat) : ∀ i, i < n → 0 ≤ depP d i ∧ depP d i ≤ 5 := fun i _ => by unfold depP; split <;> omega
theorem plaP_bound {n : Nat} (hn : n ≤ 5) : ∀ i, i < n → 0 ≤ plaP n i ∧ plaP n i ≤ 5 := fun i h => by unfold plaP; omega
theorem lasP_bound (n : Nat) : ∀ i, i < n → 0 ≤ lasP n i ∧ lasP n i ≤ 5 := fun i _ => by unfold lasP; split <;> omega

end Go.Proofs.Ytgkakgibgfehaaa

namespace Go.Proofs.Ytgkakgibgfehaaa
open Go.RowKit

end Go.Proofs.Ytgkakgibgfehaaa

namespace Go.Proofs.Ytgkakgibgfehaaa
open Go.RowKit

set_option maxRecDepth 100000 in
set_option maxHeartbeats 2000000 in
/-- **spec.l3Total**. -/
theorem l3Total_any (a : Option Addr) (len cap : Nat) (ps : List Pl) (w : World) (h : IsPiles w a len cap ps) (hm : ∀ i, 0 ≤ mAt ps i ∧ mAt ps i ≤ 1000000) :
    Calls Tq.prog 68 #[.slice a len cap] w fun e w' => e = .returned (.int .i64 (sumL ps)) ∧ w = w' := by
  have HI := Lib.hid h
  have H1 := Lib.hid h.1
  have HM := Lib.hid hm
  have hmax := h.2.2.1
  clear h hm
  go_enter Tq.func68, Tq.ntmps68
  go_wp2
  go_loop [3, 4] (fun n i => ∃ k : Nat, k ≤ len ∧ i = .int .i64 k ∧ n = .int .i64 (sumL (ps.take k))) (fun _ i => len - (intOf i).toNat)
  case atStart => exact ⟨0, Nat.zero_le _, rfl, rfl⟩
  case round =>
    obtain ⟨k, hk, rfl, rfl⟩ := hrel
    obtain ⟨s, hs⟩ : ∃ s, sumL (ps.take k) = s := ⟨_, rfl⟩
    have hb := sum_bound HM.out k (by rw [H1.out]; exact hk)
    by_cases hlt : k < len
    · obtain ⟨b, off, rfl, _, _, c1⟩ := HI.out.piles hlt
      obtain ⟨m, hm⟩ : ∃ m, mAt ps k = m := ⟨_, rfl⟩
      have hst := sum_take (ps := ps) (k := k) (by rw [H1.out]; exact hlt)
      have hmb := HM.out k
      rw [hm] at c1 hmb hst
      rw [hs] at hb hst ⊢
      have HST := Lib.hid hst
      clear hst hm hs
      have hw1 : IntKind.i64.wrap (s + m) = s + m := IntWalk.i64_in _ (by omega)
      go_wp2
      refine ⟨⟨k + 1, by omega, by go_num, by rw [HST.out]⟩, ?_⟩
      simp [intOf]; omega
    · obtain rfl : k = len := by omega
      have hall : sumL (ps.take k) = sumL ps := by rw [List.take_of_length_le (by rw [H1.out]; omega)]
      rw [hall]
      clear hall hs hb
      go_wp2
      go_ret
      exact ⟨rfl, rfl⟩

end Go.Proofs.Ytgkakgibgfehaaa

namespace Go.Proofs.Ytgkakgibgfehaaa

/-- The greatest of the first k + 1 counts. -/
def maxTo (c : List Int) : Nat → Int
  | 0 => c[0]?.getD 0
  | k + 1 => max (maxTo c k) (c[k + 1]?.getD 0)
theorem maxTo_zero (c : List Int) : maxTo c 0 = c[0]?.getD 0 := rfl
theorem maxTo_succ (c : List Int) (k : Nat) : maxTo c (k + 1) = max (maxTo c k) (c[k + 1]?.getD 0) := rfl
theorem maxTo_ge {c : List Int} : ∀ {k i : Nat}, i ≤ k → c[i]?.getD 0 ≤ maxTo c k
  | 0, i, h => by rw [Nat.le_zero.1 h]; exact Int.le_refl _
  | k + 1, i, h => by
    rw [maxTo_succ]
    by_cases e : i = k + 1
    · subst e; exact Int.le_max_right _ _
    · exact Int.le_trans (maxTo_ge (by omega : i ≤ k)) (Int.le_max_left _ _)
theorem maxTo_hit (c : List Int) : ∀ k, ∃ i, i ≤ k ∧ c[i]?.getD 0 = maxTo c k
  | 0 => ⟨0, Nat.le_refl _, rfl⟩
  | k + 1 => by
    obtain ⟨i, hi, he⟩ := maxTo_hit c k
    rw [maxTo_succ]
    by_cases g : c[k + 1]?.getD 0 ≤ maxTo c k
    · exact ⟨i, by omega, by omega⟩
    · exact ⟨k + 1, Nat.le_refl _, by omega⟩
theorem best_all {c : List Int} {n : Nat} (h0 : ∀ i, i < n → 0 ≤ c[i]?.getD 0) : ∀ k, k < n → bestS c (allL n) (k + 1) = maxTo c k
  | 0, h => by
    have := h0 0 h
    rw [bestS_succ, bestS_zero, if_pos (allL_at h), maxTo_zero]; omega
  | k + 1, h => by
    have ih := best_all h0 k (by omega)
    rw [bestS_succ, ih, if_pos (allL_at h), maxTo_succ]
/-- Who has as many. -/
def eqTo (c : List Int) (m : Int) (n : Nat) : List Bool := (List.range n).map fun i => c[i]?.getD 0 == m
theorem eqTo_length (c : List Int) (m : Int) (n : Nat) : (eqTo c m n).length = n := by simp [eqTo]
theorem most_great {c : List Int} {n : Nat} (hc : c.length = n) (hn : 1 ≤ n) (h0 : ∀ i, i < n → 0 ≤ c[i]?.getD 0) : mostL c (allL n) = eqTo c (maxTo c (n - 1)) n := by
  unfold mostL eqTo
  rw [hc]
  have := best_all h0 (n - 1) (by omega)
  rw [show n - 1 + 1 = n by omega] at this
  rw [this]
  refine List.map_congr_left (fun i hi => ?_)
  rw [allL_at (List.mem_range.1 hi)]; rfl
theorem over_great {c : List Int} {n : Nat} (hc : c.length = n) (hn : 1 ≤ n) (total : Int) : overL c total = decide (total < 2 * maxTo c (n - 1)) := by
  unfold overL
  by_cases h : total < 2 * maxTo c (n - 1)
  · rw [decide_eq_true h, List.any_eq_true]
    obtain ⟨i, hi, he⟩ := maxTo_hit c (n - 1)
    have hlt : i < c.length := by omega
    refine ⟨c[i], List.getElem_mem hlt, ?_⟩
    have e : c[i]?.getD 0 = c[i] := by simp [hlt]
    rw [decide_eq_true_iff]; omega
  · rw [decide_eq_false h, List.any_eq_false]
    intro z hz
    obtain ⟨i, hi, rfl⟩ := List.mem_iff_getElem.1 hz
    have e : c[i]?.getD 0 = c[i] := by simp [hi]
    have := maxTo_ge (c := c) (k := n - 1) (i := i) (by omega)
    rw [decide_eq_true_iff]; omega
/-- Whether one of the first k counts is more than half. -/
def overTo (c : List Int) (total : Int) (k : Nat) : Bool := (c.take k).any fun z => decide (total < 2 * z)
theorem overTo_zero (c : List Int) (total : Int) : overTo c total 0 = false := by simp [overTo]
theorem overTo_all {c : List Int} (total : Int) {k : Nat} (h : c.length ≤ k) : overTo c total k = overL c total := by rw [overTo, List.take_of_length_le h]; rfl
theorem overL_hit {c : List Int} {total : Int} {i : Nat} (hi : i < c.length) (h : total < 2 * c[i]?.getD 0) : overL c total = true := by
  unfold overL
  rw [List.any_eq_true]
  have e : c[i]?.getD 0 = c[i] := by simp [hi]
  exact ⟨c[i], List.getElem_mem hi, by rw [decide_eq_true_iff]; omega⟩
theorem overTo_miss {c : List Int} {total : Int} {k : Nat} (hk : k < c.length) (h : ¬ total < 2 * c[k]?.getD 0) : overTo c total (k + 1) = overTo c total k := by
  unfold overTo
  have e : c[k]?.getD 0 = c[k] := by simp [hk]
  rw [List.take_succ_eq_append_getElem hk, List.any_append]
  simp only [List.any_cons, List.any_nil, Bool.or_false]
  rw [decide_eq_false (by omega), Bool.or_false]

end Go.Proofs.Ytgkakgibgfehaaa

namespace Go.Proofs.Ytgkakgibgfehaaa

/-- The lots that a seed draws of those that are left. -/
def lotR (rest : List Int) (seed : Nat) : List Int := lotL rest.length rest seed
theorem lotR_nil (seed : Nat) : lotR [] seed = [] := rfl
theorem lotR_step {rest : List Int} {m : Nat} (hm : rest.length = m) (h : m ≠ 0) (seed : Nat) : lotR rest seed = rest[seed % m]?.getD 0 :: lotR (rest.eraseIdx (seed % m)) (seed / m) := by
  subst hm
  obtain ⟨n, hn⟩ : ∃ n, rest.length = n + 1 := ⟨rest.length - 1, by omega⟩
  have hk := Nat.mod_lt seed (show 0 < rest.length by omega)
  have he : (rest.eraseIdx (seed % rest.length)).length = n := by rw [List.length_eraseIdx, if_pos hk]; omega
  unfold lotR
  rw [he]
  conv => lhs; rw [hn]
  rw [lotL_step n rest seed h]
theorem lotR_all (n seed : Nat) : lotR (fromZero n) seed = lotsOf n seed := by unfold lotR lotsOf; rw [fromZero_length]
theorem erase_length {rest : List Int} {m k : Nat} (hm : rest.length = m) (h : k < m) : (rest.eraseIdx k).length = m - 1 := by rw [List.length_eraseIdx, hm, if_pos h]

/-- The number of candidates and the seed are in range. -/
def okLots (n seed : Int) : Bool := inB n 1 5 && inB seed 0 999
/-- What LotsOf returns. -/
def lotsI (n seed : Int) : List Int := if okLots n seed = true then lotsOf n.toNat seed.toNat else []
theorem okLots_of {n seed : Int} (h : okLots n seed = true) : (1 ≤ n ∧ n ≤ 5) ∧ 0 ≤ seed ∧ seed ≤ 999 := by simpa [okLots, inB] using h
theorem lotsI_yes {n seed : Int} (h : okLots n seed = true) : lotsI n seed = lotsOf n.toNat seed.toNat := by rw [lotsI, if_pos h]
theorem lotsI_no {n seed : Int} (h : okLots n seed = false) : lotsI n seed = [] := by rw [lotsI, h]; rfl
theorem lotsI_short (n seed : Int) : (lotsI n seed).length ≤ 5 := by
  cases h : okLots n seed
  · rw [lotsI_no h]; simp
  · have := okLots_of h
    rw [lotsI_yes h, lotsOf_length]; omega
theorem lotsI_length {n seed : Int} (h : okLots n seed = true) : ((lotsI n seed).length : Int) = n := by
  have := okLots_of h
  rw [lotsI_yes h, lotsOf_length]; omega
/-- What LotsFirst returns. -/
def pickB (zs : List Int) (L : List Bool) : Int := if lotsB zs = true ∧ L.length = zs.length then pickL zs L else -1
theorem lotsB_mem {zs : List Int} (h : lotsB zs = true) : ∀ z ∈ zs, 0 ≤ z ∧ z < (zs.length : Int) := (vB_mem h).2.2
theorem inB_yes {x lo hi : Int} (h1 : lo ≤ x) (h2 : x ≤ hi) : inB x lo hi = true := by simp [inB]; omega
end Go.Proofs.Ytgkakgibgfehaaa

namespace Go.Proofs.Ytgkakgibgfehaaa
open Go.RowKit

/-- **impl.LotsValid**. -/
theorem implLots_any (a : Option Addr) (len cap : Nat) (zs : List Int) (w : World) (h : IsInts w a len cap zs) :
    Calls Tq.prog 65 #[.slice a len cap] w fun e w' => e = .returned (.bool (lotsB zs)) ∧ Below w.heap.size w w' := by
  have HV : Hid (validB zs (len : Int) = lotsB zs) := by unfold Hid lotsB; rw [h.1]
  have H := Lib.hid h; clear h
  go_enter Tq.func65, Tq.ntmps65
  go_wp2_with fail
  refine (implValid_any _ _ _ zs _ _ H.out).mono ?_
  rintro e w1 ⟨rfl, hb⟩
  go_wp2
  go_ret
  exact ⟨ret_bool HV.out, hb⟩

set_option maxHeartbeats 1000000 in
/-- **impl.LotsFirst**. -/
theorem implPick_any (a : Option Addr) (len cap : Nat) (zs : List Int) (a' : Option Addr) (len' cap' : Nat) (L : List Bool) (w : World) (h : IsInts w a len cap zs) (h' : IsBools w a' len' cap' L) :
    Calls Tq.prog 96 #[.slice a len cap, .slice a' len' cap'] w fun e w' => e = .returned (.int .i64 (pickB zs L)) ∧ Below w.heap.size w w' := by
  have hE : Hid (pickB zs L = if lotsB zs = true ∧ len' = len then pickL zs L else -1) := by unfold Hid pickB; rw [h.1, h'.1]
  have hm := h'.2.2.1
  have hm' := h.2.2.1
  have HL := Lib.hid h.1
  have H := Lib.hid h; clear h
  have H' := Lib.hid h'; clear h'
  cases hv : lotsB zs
  · have HV := Lib.hid hv
    go_enter Tq.func96, Tq.ntmps96
    go_wp2_with fail
    refine (implLots_any _ _ _ zs _ H.out).mono ?_
    rintro e w1 ⟨he, hb⟩
    rw [HV.out] at he
    subst he
    go_wp2
    go_ret
    refine ⟨ret_int ?_, hb⟩
    rw [hE.out, HV.out]; rfl
  · have HV := Lib.hid hv
    by_cases hll : len' = len
    · have HR : Hid (∀ z ∈ zs, 0 ≤ z ∧ z < (len' : Int)) := by intro z hz; have := lotsB_mem HV.out z hz; rw [HL.out] at this; omega
      subst hll
      have hne : ((len' : Int) != (len' : Int)) = false := by simp
      go_enter Tq.func96, Tq.ntmps96
      go_wp2_with fail
      refine (implLots_any _ _ _ zs _ H.out).mono ?_
      rintro e w1 ⟨he, hb⟩
      rw [HV.out] at he
      subst he
      have HB := Lib.hid hb
      obtain ⟨-, -, -, h4⟩ := H.out.below hb
      obtain ⟨-, -, -, g4⟩ := H'.out.below hb
      have H4 := Lib.hid h4; clear h4
      have G4 := Lib.hid g4; clear g4 hb
      go_wp2
      go_loop [19] (fun i => ∃ k : Nat, k ≤ len' ∧ i = .int .i64 k ∧ Hid (pickL zs L = pickL (zs.drop k) L)) (fun i => len' - (intOf i).toNat)
      case atStart => exact ⟨0, Nat.zero_le _, rfl, by simp [Hid]⟩
      case round =>
        obtain ⟨k, hk, rfl, hp⟩ := hrel
        by_cases hlt : k < len'
        · obtain ⟨b, o, rfl, hb, hc⟩ := H4.out (by omega)
          have hz := hc k hlt
          have hkz : k < zs.length := by rw [HL.out]; exact hlt
          have hr := HR.out (zs[k]?.getD 0) (by simp [hkz])
          obtain ⟨c, hcz⟩ := Int.eq_ofNat_of_zero_le hr.1
          obtain ⟨lb, lo, rfl, hlb, hlc⟩ := G4.out (by omega)
          have hcl : c < len' := by omega
          have hcell := hlc c hcl
          rw [hcz] at hz
          have HD := drop_cons zs k hkz
          rw [hcz] at HD
          have HD := Lib.hid HD
          clear hc hlc hr hcz hkz
          cases hLc : L[c]?.getD false
          · have HLc := Lib.hid hLc
            rw [hLc] at hcell
            clear hLc
            go_wp2
            go_round
            case rel =>
              refine ⟨k + 1, by omega, by go_num, ?_⟩
              unfold Hid
              rw [hp.out, HD.out, pickL, if_neg (by rw [Int.toNat_natCast, HLc.out]; simp)]
            case measure => simp [intOf]; omega
          · have HLc := Lib.hid hLc
            rw [hLc] at hcell
            clear hLc
            go_wp2
            go_ret
            refine ⟨ret_int ?_, HB.out⟩
            rw [hE.out, if_pos (by simp [HV.out]), hp.out, HD.out, pickL, if_pos (by rw [Int.toNat_natCast]; exact HLc.out)]
        · obtain rfl : k = len' := by omega
          go_wp2
          go_ret
          refine ⟨ret_int ?_, HB.out⟩
          rw [hE.out, if_pos (by simp [HV.out]), hp.out, List.drop_of_length_le (by rw [HL.out]; omega)]; rfl
    · have hll2 : ¬ (len' : Int) = (len : Int) := by omega
      have hll3 : ((len' : Int) != (len : Int)) = true := by simpa using hll2
      go_enter Tq.func96, Tq.ntmps96
      go_wp2_with fail
      refine (implLots_any _ _ _ zs _ H.out).mono ?_
      rintro e w1 ⟨he, hb⟩
      rw [HV.out] at he
      subst he
      go_wp2
      go_ret
      refine ⟨ret_int ?_, hb⟩
      rw [hE.out, if_neg (fun e => hll e.2)]

end Go.Proofs.Ytgkakgibgfehaaa

namespace Go.Proofs.Ytgkakgibgfehaaa
open Go.RowKit

attribute [local go_sem] Oper.semAt_some

theorem bool_info9 : (Tq.prog.info? 4).map (fun i => (i.zero, i.size, i.bytes)) = some (some (.bool false), 1, 1) := by kernel_rfl

set_option maxRecDepth 100000 in
set_option maxHeartbeats 2000000 in
/-- **slices.Max**. -/
theorem slicesMax_as (a : Option Addr) (len cap : Nat) (zs : List Int) (w : World) (h : IsInts w a len cap zs) (hp : 0 < len) (m : Int) (hm : maxTo zs (len - 1) = m) :
    Calls Tq.prog 66 #[.slice a len cap] w fun e w' => e = .returned (.int .i64 m) ∧ w = w' := by
  obtain ⟨h1, h2, h3, h4⟩ := h
  obtain ⟨b, off, rfl, hb, hc⟩ := h4 hp
  have HC := Lib.hid hc
  have HM := Lib.hid hm
  have c0 := hc 0 hp
  rw [Nat.add_zero] at c0
  obtain ⟨z0, hz0⟩ : ∃ z0, zs[0]?.getD 0 = z0 := ⟨_, rfl⟩
  rw [hz0] at c0
  have HZ0 : Hid (maxTo zs 0 = z0) := hz0
  have hlt1 : decide ((len : Int) < 1) = false := decide_eq_false (by omega)
  have hlt2 : decide (len = 0) = false := decide_eq_false (by omega)
  have hlt3 : ¬ len = 0 := by omega
  have hpi : (0 : Int) < (len : Int) := by omega
  clear hc h4 hm hz0 h1
  go_enter Tq.func66, Tq.ntmps66
  go_wp2
  go_loop [3, 4] (fun mv iv => ∃ (i : Nat) (x : Int), 1 ≤ i ∧ i ≤ len ∧ iv = .int .i64 (i : Int) ∧ mv = .int .i64 x ∧ Hid (maxTo zs (i - 1) = x)) (fun _ iv => len - (intOf iv).toNat)
  case atStart => exact ⟨1, z0, Nat.le_refl _, hp, rfl, rfl, HZ0⟩
  case round =>
    clear HZ0 c0
    obtain ⟨i, x, hi1, hil, rfl, rfl, hx⟩ := hrel
    by_cases hlt : i < len
    · have ci := HC.out i hlt
      obtain ⟨z, hz⟩ : ∃ z, zs[i]?.getD 0 = z := ⟨_, rfl⟩
      rw [hz] at ci
      have HX : Hid (maxTo zs i = max x z) := by
        obtain ⟨k, rfl⟩ : ∃ k, i = k + 1 := ⟨i - 1, by omega⟩
        have := hx.out
        rw [Nat.add_sub_cancel] at this
        rw [Hid, maxTo_succ, this, hz]
      clear hz
      by_cases hxz : x < z
      · have HX2 : Hid (maxTo zs (i + 1 - 1) = z) := by rw [Nat.add_sub_cancel, Hid, HX.out]; omega
        go_wp2
        go_round
        case rel => exact ⟨i + 1, z, by omega, by omega, by go_num, by first | rfl | (congr 1; omega), HX2⟩
        case measure => simp [intOf]; omega
      · have HX2 : Hid (maxTo zs (i + 1 - 1) = x) := by rw [Nat.add_sub_cancel, Hid, HX.out]; omega
        go_wp2
        go_round
        case rel => exact ⟨i + 1, x, by omega, by omega, by go_num, by first | rfl | (congr 1; omega), HX2⟩
        case measure => simp [intOf]; omega
    · obtain rfl : i = len := by omega
      go_wp2
      go_ret
      exact ⟨ret_int (by rw [← HM.out, hx.out]), rfl⟩

theorem eqTo_next (c : List Int) (m : Int) (n k : Nat) : ((List.range n).map fun i => Value.bool (decide (i < k) && (c[i]?.getD 0 == m))).set k (.bool (c[k]?.getD 0 == m)) = (List.range n).map fun i => Value.bool (decide (i < k + 1) && (c[i]?.getD 0 == m)) := by
  refine List.ext_getElem (by simp) (fun i h1 h2 => ?_)
  by_cases e : k = i
  · subst e; simp
  · rw [List.getElem_set_ne e]
    simp only [List.getElem_map, List.getElem_range]
    by_cases g : i < k
    · rw [decide_eq_true g, decide_eq_true (by omega : i < k + 1)]
    · rw [decide_eq_false g, decide_eq_false (by omega : ¬ i < k + 1)]
theorem falses_made (n : Nat) (f : Nat → Bool) : (madeCells (Value.bool false).cells (n * 1)).toList = (List.range n).map fun i => Value.bool (decide (i < 0) && f i) := by
  rw [show (Value.bool false).cells = #[.bool false] from rfl, toList_madeCells_one, Nat.mul_one]
  refine List.ext_getElem (by simp) (fun i h1 h2 => ?_)
  simp
theorem bools_owned {w : World} {base g n c : Nat} {f : Nat → Bool} (h : w.ownsRow base 4 1 (.slice (some ⟨g, 0, none⟩) n c) n ((List.range n).map fun i => Value.bool (f i))) (hn : n ≤ 1048600) (hc : n ≤ c) : IsBools w (some ⟨g, 0, none⟩) n c ((List.range n).map f) := by
  refine ⟨by simp, hc, hn, fun hp => ⟨g, 0, rfl, (h.lt g rfl).2, fun j hj => ?_⟩⟩
  rw [Nat.zero_add, h.cellAt j (by omega)]
  simp [hj]

set_option maxRecDepth 100000 in
set_option maxHeartbeats 2000000 in
/-- **greatestCount**. -/
theorem great_as (a : Option Addr) (n cap : Nat) (cs : List Int) (a' : Option Addr) (cap' : Nat) (lots : List Int) (w : World) (h : IsInts w a n cap cs) (h' : IsInts w a' n cap' lots) (hl : lotsB lots = true) (h0 : ∀ i, i < n → 0 ≤ cs[i]?.getD 0) (r : Int) (hr : pickL lots (mostL cs (allL n)) = r) :
    Calls Tq.prog 58 #[.slice a n cap, .slice a' n cap'] w fun e w' => e = .returned (.int .i64 r) ∧ Below w.heap.size w w' := by
  obtain ⟨i0, hi, hz0, hz1, hz2⟩ := info_parts bool_info9
  have hlen := h'.1
  have hn := lotsB_len hl
  rw [hlen] at hn
  have hcs := h.1
  obtain ⟨m, hm⟩ : ∃ m, maxTo cs (n - 1) = m := ⟨_, rfl⟩
  have HR : Hid (pickB lots (eqTo cs m n) = r) := by
    rw [Hid, pickB, if_pos ⟨hl, by rw [eqTo_length, hlen]⟩, ← hr, most_great hcs hn.1 h0, hm]
  have H := Lib.hid h
  have H' := Lib.hid h'
  have HM := Lib.hid hm
  clear h h' hr hm h0 hcs hlen
  go_enter Tq.func58, Tq.ntmps58
  go_wp2_with fail
  refine (slicesMax_as _ _ _ cs _ H.out (by omega) m HM.out).mono ?_
  rintro e w1 ⟨rfl, rfl⟩
  obtain ⟨g, hg⟩ : ∃ g, w.heap.size = g := ⟨_, rfl⟩
  go_wp2_with (at_make; refine wpList_make_full _ rfl _ _ 24 rfl w.heap.size 4 i0 (.bool false) 1 Tq.underlying24 hi hz0 hz1 .i64 .i64 _ _ n rfl rfl rfl rfl (by rw [hz2]; omega) (by unfold maxLen; omega) (Nat.le_refl _) ?_; intro w2 hown hgrow)
  have hb2 : Below g w w2 := hg ▸ (Below.refl _ w).grown hgrow (Nat.le_refl _) (fun k e => by cases e)
  rw [hg, falses_made n (fun i => cs[i]?.getD 0 == m)] at hown
  have O2 := Lib.hid hown
  have HG := Lib.hid hg
  clear hown hgrow hg hi hz0 hz1 hz2
  go_wp2
  go_loopw [7, 8, 16] (fun _ _ iv wr => ∃ i : Nat, i ≤ n ∧ iv = .int .i64 (i : Int) ∧ Hid (wr.ownsRow g 4 1 (.slice (some ⟨g, 0, none⟩) n n) n ((List.range n).map fun k => Value.bool (decide (k < i) && (cs[k]?.getD 0 == m)))) ∧ Below g w wr) (fun _ _ iv _ => n - (intOf iv).toNat)
  case atStart => exact ⟨0, Nat.zero_le _, rfl, O2, hb2⟩
  case round =>
    clear O2 hb2
    obtain ⟨i, hin, rfl, hO, hB⟩ := hrel
    have hBw : Below w.heap.size w wr := HG.out.symm ▸ hB
    by_cases hlt : i < n
    · obtain ⟨b, off, rfl, hb, hc⟩ := (H.out.below hBw).2.2.2 (by omega)
      have ci := hc i hlt
      obtain ⟨z, hz⟩ : ∃ z, cs[i]?.getD 0 = z := ⟨_, rfl⟩
      obtain ⟨v, hv⟩ : ∃ v, (z == m) = v := ⟨_, rfl⟩
      rw [hz] at ci
      have hst := (hO.out.stored i (.bool v)).1
      have O3 : Hid ((wr.setCell ⟨g, i, none⟩ (.bool v)).ownsRow g 4 1 (.slice (some ⟨g, 0, none⟩) n n) n ((List.range n).map fun k => Value.bool (decide (k < i + 1) && (cs[k]?.getD 0 == m)))) := by
        rw [Hid, ← eqTo_next cs m n i, hz, hv]; exact hst
      have hgc : wr.cell? ⟨g, i, none⟩ = some (.bool (decide (i < i) && (z == m))) := by
        rw [hO.out.cellAt i (by omega)]; simp [hlt, hz]
      have hfz := hO.out.frozenAt i
      have B3 : Below g w (wr.setCell ⟨g, i, none⟩ (.bool v)) := hB.setCell (p := ⟨g, i, none⟩) (Nat.le_refl _) _
      clear hc hst hO hB hBw hz
      go_wp2
      go_roundw
      case rel => exact ⟨i + 1, by omega, by go_num, O3, B3⟩
      case measure => simp [intOf]; omega
    · obtain rfl : i = n := by omega
      have J : Hid (IsBools wr (some ⟨g, 0, none⟩) i i (eqTo cs m i)) := by
        have h1 := bools_owned hO.out (by omega) (Nat.le_refl _)
        have h2 : ((List.range i).map fun k => decide (k < i) && (cs[k]?.getD 0 == m)) = eqTo cs m i := by
          unfold eqTo
          refine List.map_congr_left (fun k hk => ?_)
          rw [decide_eq_true (List.mem_range.1 hk), Bool.true_and]
        rw [h2] at h1; exact h1
      have K := Lib.hid (H'.out.below hBw)
      clear hO
      go_wp2_with fail
      refine (implPick_any _ _ _ lots _ _ _ (eqTo cs m i) _ K.out J.out).mono ?_
      rw [HR.out]
      rintro e w5 ⟨rfl, hb5⟩
      go_wp2
      go_ret
      exact ⟨rfl, hBw.trans (hb5.mono hBw.size)⟩

end Go.Proofs.Ytgkakgibgfehaaa

namespace Go.Proofs.Ytgkakgibgfehaaa
open Go.RowKit

theorem lotsB_eq {zs : List Int} {len : Nat} (h : zs.length = len) (hl : len ≤ 1048600) : lotsB zs = (goodTo zs ((len : Int) - 1) len && inB (len : Int) 1 5) := by
  unfold lotsB validB
  rw [h, IntWalk.wrap64_in _ ⟨by omega, by omega⟩]

set_option maxHeartbeats 400000 in
/-- **spec.LotsValid**. -/
theorem specLots_any (a : Option Addr) (len cap : Nat) (zs : List Int) (w : World) (h : IsInts w a len cap zs) :
    Calls Tq.prog 59 #[.slice a len cap] w fun e w' => e = .returned (.bool (lotsB zs)) ∧ Dr w w' := by
  have hl := h.2.2.1
  have HV := Lib.hid (lotsB_eq h.1 hl)
  have H := Lib.hid h; clear h
  go_enter Tq.func59, Tq.ntmps59
  go_wp2
  go_loopw [3] (fun i wr => ∃ k : Nat, k ≤ len ∧ i = .int .i64 k ∧ Hid (goodTo zs ((len : Int) - 1) k = true) ∧ Dr w wr) (fun i _ => len - (intOf i).toNat)
  case atStart => exact ⟨0, Nat.zero_le _, rfl, by simp [Hid, goodTo], Dr.refl _⟩
  case round =>
    obtain ⟨k, hk, rfl, hc, hd⟩ := hrel
    by_cases hlt : k < len
    · have HI := H.out.dr hd
      have HK := HI.take hk
      obtain ⟨h1, h2, h3, h4⟩ := HI
      obtain ⟨b, off, rfl, hb, hcell⟩ := h4 (by omega)
      have hck := hcell k hlt
      have HS := goodTo_succ zs ((len : Int) - 1) k
      rw [hc.out, Bool.true_and] at HS
      have HS := Lib.hid HS
      clear h1 h4 hcell
      by_cases hin : inB (zs[k]?.getD 0) 0 ((len : Int) - 1) = true
      · cases hh : hasB (zs.take k) (zs[k]?.getD 0)
        all_goals
          go_wp2
          go_quiet (first | (go_at_call 63; exact quiet_same (l6In_any _ _ _ _)) | (go_at_call 97; exact quiet_same (l1Has_any _ _ _ _ _ _ (HK.drewN _))))
          go_wp2
        · go_roundw
          case rel => exact ⟨k + 1, by omega, by go_num, by unfold Hid; rw [HS.out, hin, hh]; rfl, hd.drewN _⟩
          case measure => simp [intOf]; omega
        · go_ret
          refine ⟨ret_bool ?_, hd.drewN _⟩
          rw [HV.out, goodTo_no (by rw [HS.out, hin, hh]; rfl) hlt]; rfl
      · have hin' : inB (zs[k]?.getD 0) 0 ((len : Int) - 1) = false := by simpa using hin
        clear hin
        go_wp2
        go_quiet (first | (go_at_call 63; exact quiet_same (l6In_any _ _ _ _)) | (go_at_call 97; exact quiet_same (l1Has_any _ _ _ _ _ _ (HK.drewN _))))
        go_wp2
        go_ret
        refine ⟨ret_bool ?_, hd.drewN _⟩
        rw [HV.out, goodTo_no (by rw [HS.out, hin']; rfl) hlt]; rfl
    · obtain rfl : k = len := by omega
      go_wp2_with (go_at_call 63; refine (l6In_any _ _ _ _).mono ?_; rintro e w' ⟨rfl, rfl⟩)
      go_ret
      refine ⟨ret_bool ?_, hd⟩
      rw [HV.out, hc.out, Bool.true_and]

set_option maxHeartbeats 1000000 in
theorem l4First_any (a : Option Addr) (len cap : Nat) (zs : List Int) (a' : Option Addr) (len' cap' : Nat) (L : List Bool) (w : World) (h : IsInts w a len cap zs) (h' : IsBools w a' len' cap' L) (hr : ∀ z ∈ zs, 0 ≤ z ∧ z < (len' : Int)) :
    Calls Tq.prog 69 #[.slice a len cap, .slice a' len' cap'] w fun e w' => e = .returned (.int .i64 (pickL zs L)) ∧ w = w' := by
  obtain ⟨h1, h2, h3, h4⟩ := h
  obtain ⟨g1, g2, g3, g4⟩ := h'
  have H1 := Lib.hid h1; clear h1
  have H4 := Lib.hid h4; clear h4
  have G4 := Lib.hid g4; clear g4 g1
  have HR := Lib.hid hr; clear hr
  go_enter Tq.func69, Tq.ntmps69
  go_wp2
  go_loop [5] (fun i => ∃ k : Nat, k ≤ len ∧ i = .int .i64 k ∧ Hid (pickL zs L = pickL (zs.drop k) L)) (fun i => len - (intOf i).toNat)
  case atStart => exact ⟨0, Nat.zero_le _, rfl, by simp [Hid]⟩
  case round =>
    obtain ⟨k, hk, rfl, hp⟩ := hrel
    by_cases hlt : k < len
    · obtain ⟨b, o, rfl, hb, hc⟩ := H4.out (by omega)
      have hz := hc k hlt
      have hkz : k < zs.length := by rw [H1.out]; exact hlt
      have hr := HR.out (zs[k]?.getD 0) (by simp [hkz])
      obtain ⟨c, hcz⟩ := Int.eq_ofNat_of_zero_le hr.1
      obtain ⟨lb, lo, rfl, hlb, hlc⟩ := G4.out (by omega)
      have hcl : c < len' := by omega
      have hcell := hlc c hcl
      rw [hcz] at hz
      have HD : zs.drop k = (c : Int) :: zs.drop (k + 1) := by
        rw [List.drop_eq_getElem_cons hkz, ← hcz]; simp [hkz]
      have HD := Lib.hid HD
      clear hc hlc hr hcz hkz
      cases hL : L[c]?.getD false
      · have HL := Lib.hid hL
        go_wp2
        go_round
        case rel =>
          refine ⟨k + 1, by omega, by go_num, ?_⟩
          unfold Hid
          rw [hp.out, HD.out, pickL, if_neg (by rw [Int.toNat_natCast, HL.out]; simp)]
        case measure => simp [intOf]; omega
      · have HL := Lib.hid hL
        go_wp2
        go_ret
        refine ⟨ret_int ?_, rfl⟩
        rw [hp.out, HD.out, pickL, if_pos (by rw [Int.toNat_natCast]; exact HL.out)]
    · obtain rfl : k = len := by omega
      go_wp2
      go_ret
      refine ⟨ret_int ?_, rfl⟩
      rw [hp.out, List.drop_of_length_le (by rw [H1.out]; omega)]; rfl

end Go.Proofs.Ytgkakgibgfehaaa

namespace Go.Proofs.Ytgkakgibgfehaaa
open Go.RowKit

/-- **impl.LotsValid**, its answer named. -/
theorem implLots_as (a : Option Addr) (len cap : Nat) (zs : List Int) (v : Bool) (w : World) (h : IsInts w a len cap zs) (hv : lotsB zs = v) :
    Calls Tq.prog 65 #[.slice a len cap] w fun e w' => e = .returned (.bool v) ∧ Below w.heap.size w w' := by
  subst hv; exact implLots_any a len cap zs w h
end Go.Proofs.Ytgkakgibgfehaaa

namespace Go.Proofs.Ytgkakgibgfehaaa
open Go.RowKit

attribute [local go_sem] Oper.semAt_some

/-- What PluralityWinner and PluralityMargin tell. -/
def plOk (ps : List Pl) (lots : List Int) : Bool := lotsB lots && fitsB ps (lots.length : Int)
theorem plOk_iff (ps : List Pl) (lots : List Int) : plOk ps lots = true ↔ lotsB lots = true ∧ fitsB ps (lots.length : Int) = true := by simp [plOk]
def plWin (ps : List Pl) (lots : List Int) : Int := if plOk ps lots = true then winL ps lots else -1
theorem plurC_counts (ps : List Pl) (n : Nat) : plurC ps n = countsL ps (noneL n) := rfl
theorem noneL_len (n : Nat) : (noneL n).length = n := by simp [noneL]
theorem nones_made (n : Nat) : (madeCells (Value.bool false).cells (n * 1)).toList = (noneL n).map Value.bool := by
  rw [show (Value.bool false).cells = #[.bool false] from rfl, toList_madeCells_one]; simp [noneL]
theorem bool_infoP : (Tq.prog.info? 4).map (fun i => (i.zero, i.size, i.bytes)) = some (some (.bool false), 1, 1) := by kernel_rfl
theorem nones_own {w : World} {base g n c : Nat} (h : w.ownsRow base 4 1 (.slice (some ⟨g, 0, none⟩) n c) n ((noneL n).map Value.bool)) (hn : n ≤ 1048600) (hc : n ≤ c) : IsBools w (some ⟨g, 0, none⟩) n c (noneL n) := by
  refine ⟨noneL_len n, hc, hn, fun hp => ⟨g, 0, rfl, (h.lt g rfl).2, fun j hj => ?_⟩⟩
  rw [Nat.zero_add, h.cellAt j (by omega)]
  simp [noneL, hj]
theorem plur_low {ps : List Pl} {n : Nat} (h : fitsB ps (n : Int) = true) (i : Nat) : 0 ≤ (plurC ps n)[i]?.getD 0 ∧ (plurC ps n)[i]?.getD 0 ≤ 5940 := by
  rw [plurC_counts]
  have h' : fitsB ps ((noneL n).length : Int) = true := by rw [noneL_len]; exact h
  exact (fst_facts h').2.2.1 i
theorem win_in {ps : List Pl} {lots : List Int} (h : plOk ps lots = true) : 0 ≤ winL ps lots ∧ winL ps lots < (lots.length : Int) ∧ 1 ≤ lots.length ∧ lots.length ≤ 5 := by
  obtain ⟨h1, h2⟩ := (plOk_iff _ _).1 h
  have hp := (pilesB_pos (fits_parts h2).1).2.1
  have hr := winL_range h1 hp
  have hn := lotsB_len h1
  omega

set_option maxRecDepth 100000 in
set_option maxHeartbeats 2000000 in
/-- **pluralityCounts**. -/
theorem plurCounts_as (pa : Option Addr) (l ca : Nat) (ps : List Pl) (al : Option Addr) (n cl : Nat) (lots : List Int) (v : Bool) (zs : List Int) (w : World) (hps : IsPiles w pa l ca ps) (hsm : Small ps) (hl : IsInts w al n cl lots) (hv : plOk ps lots = v) (hz : (if v then plurC ps n else []) = zs) :
    Calls Tq.prog 57 #[.slice pa l ca, .slice al n cl] w fun e w' => ∃ a c, e = .returned (.tuple #[.slice a zs.length c, .bool v]) ∧ IsInts w' a zs.length c zs ∧ Below w.heap.size w w' := by
  have HP := Lib.hid hps
  have HI := Lib.hid hl
  have hn := hl.1
  cases h1 : lotsB lots
  · have e : v = false := by rw [← hv]; unfold plOk; rw [h1]; rfl
    subst e
    have e2 : zs = [] := by rw [← hz]; rfl
    subst e2
    have V1 := Lib.hid h1
    clear hps hl hv hz h1 hn
    go_enter Tq.func57, Tq.ntmps57
    go_wp2_with fail
    refine (implLots_as _ _ _ lots false _ HI.out V1.out).mono ?_
    rintro e w1 ⟨rfl, hd⟩
    go_wp2
    go_ret2
    exact ⟨none, 0, rfl, ⟨rfl, Nat.le_refl _, Nat.zero_le _, fun h => absurd h (by simp)⟩, hd⟩
  · have hn5 := lotsB_len h1
    rw [hn] at hn5
    obtain ⟨i0, hi, hz0, hz1, hz2⟩ := info_parts bool_infoP
    have V1 := Lib.hid h1
    have HFV : Hid (fitsB ps (n : Int) = v) := by rw [Hid, ← hv, ← hn]; unfold plOk; rw [h1]; rfl
    have HZ : Hid ((if v then countsL ps (noneL n) else []) = zs) := by rw [Hid, ← hz]; rfl
    have HSM := Lib.hid hsm
    clear hps hl hv hz h1 hn
    go_enter Tq.func57, Tq.ntmps57
    go_wp2_with fail
    refine (implLots_as _ _ _ lots true _ HI.out V1.out).mono ?_
    rintro e w1 ⟨rfl, hd⟩
    have HP := Lib.hid (HP.out.below hd)
    have B1 := Lib.hid hd
    clear hd
    go_wp2_with (at_make; refine wpList_make_full _ rfl _ _ 24 rfl w1.heap.size 4 i0 (.bool false) 1 Tq.underlying24 hi hz0 hz1 .i64 .i64 _ _ n rfl rfl rfl rfl (by rw [hz2]; omega) (by unfold maxLen; omega) (Nat.le_refl _) ?_; intro w2 hown hgrow; have hb2 : Below w1.heap.size w1 w2 := (Below.refl _ w1).grown hgrow (Nat.le_refl _) (fun k e => by cases e); rw [nones_made] at hown; have J := Lib.hid (nones_own hown (by omega) (Nat.le_refl _)); have HP := Lib.hid (HP.out.below hb2); have B2 := Lib.hid (B1.out.trans (hb2.mono B1.out.size)); clear hown hgrow hb2)
    refine (implCounts_to _ _ _ ps _ n n (noneL n) v zs _ HP.out HSM.out J.out HFV.out HZ.out).mono ?_
    rintro e w3 ⟨a, c, rfl, hi3, hb⟩
    have I3 := Lib.hid hi3
    have B3 := Lib.hid (B2.out.trans (hb.mono B2.out.size))
    clear hi3 hb
    go_wp2
    go_ret2
    exact ⟨a, c, rfl, I3.out, B3.out⟩

set_option maxRecDepth 100000 in
set_option maxHeartbeats 2000000 in
/-- **impl.PluralityWinner**. -/
theorem implPlur_as (pa : Option Addr) (l ca : Nat) (ps : List Pl) (al : Option Addr) (n cl : Nat) (lots : List Int) (r : Int) (w : World) (hps : IsPiles w pa l ca ps) (hsm : Small ps) (hl : IsInts w al n cl lots) (hr : plWin ps lots = r) :
    Calls Tq.prog 21 #[.slice pa l ca, .slice al n cl] w fun e w' => e = .returned (.int .i64 r) ∧ Below w.heap.size w w' := by
  have HP := Lib.hid hps
  have HI := Lib.hid hl
  have HSM := Lib.hid hsm
  have hn := hl.1
  cases hk : plOk ps lots
  · have e : r = -1 := by rw [← hr, plWin, if_neg (by rw [hk]; decide)]
    subst e
    have HK := Lib.hid hk
    clear hps hl hr hk hn
    go_enter Tq.func21, Tq.ntmps21
    go_wp2_with fail
    refine (plurCounts_as _ _ _ ps _ n cl lots false [] _ HP.out HSM.out HI.out HK.out rfl).mono ?_
    rintro e w1 ⟨a, c, rfl, -, hb⟩
    go_wp2
    go_ret
    exact ⟨rfl, hb⟩
  · have e : winL ps lots = r := by rw [← hr, plWin, if_pos hk]
    obtain ⟨h1, h2⟩ := (plOk_iff _ _).1 hk
    rw [hn] at h2
    have HW : Hid (pickL lots (mostL (plurC ps n) (allL n)) = r) := by rw [Hid, ← e, ← hn]; rfl
    have HK := Lib.hid hk
    have HL := Lib.hid h1
    have HF := Lib.hid h2
    have hpl : (plurC ps n).length = n := plurC_length _ _
    obtain ⟨zs, hzs⟩ : ∃ zs, plurC ps n = zs := ⟨_, rfl⟩
    have HLO : Hid (∀ i, i < n → 0 ≤ zs[i]?.getD 0) := fun i hi => by rw [← hzs]; exact (plur_low HF.out i).1
    rw [hzs] at HW hpl
    have HZ : Hid ((if true = true then plurC ps n else []) = zs) := hzs
    clear hps hl hr hk hn h1 h2 e hzs
    go_enter Tq.func21, Tq.ntmps21
    go_wp2_with fail
    refine (plurCounts_as _ _ _ ps _ n cl lots true zs _ HP.out HSM.out HI.out HK.out HZ.out).mono ?_
    rintro e w1 ⟨a, c, rfl, hi3, hb⟩
    rw [hpl] at hi3 ⊢
    have I1 := Lib.hid hi3
    have IL := Lib.hid (HI.out.below hb)
    have B1 := Lib.hid hb
    clear hi3 hb
    go_wp2_with fail
    refine (great_as _ n _ zs _ cl lots _ I1.out IL.out HL.out HLO.out r HW.out).mono ?_
    rintro e w2 ⟨rfl, hb⟩
    go_wp2
    go_ret
    exact ⟨rfl, B1.out.trans (hb.mono B1.out.size)⟩

end Go.Proofs.Ytgkakgibgfehaaa

namespace Go.Proofs.Ytgkakgibgfehaaa

/-- What a way is worth. -/
def wayP (n number : Nat) (i : Nat) : Int := if number < 6 then depP number i else if number = 6 then plaP n i else lasP n i
theorem wayP_bound {n number : Nat} (hn : n ≤ 5) : ∀ i, i < n → 0 ≤ wayP n number i ∧ wayP n number i ≤ 5 := by
  intro i hi
  unfold wayP
  split
  · exact depP_bound _ _ i hi
  · split
    · exact plaP_bound hn i hi
    · exact lasP_bound _ i hi
/-- What is told of a way. -/
def ptR (number : Nat) (ps : List Pl) (n : Int) : List Int := if fitsB ps n = true then ptL (wayP n.toNat number) ps n.toNat else []
theorem ptR_yes {number n : Nat} {ps : List Pl} (h : fitsB ps (n : Int) = true) : ptR number ps (n : Int) = ptL (wayP n number) ps n := by rw [ptR, if_pos h, Int.toNat_natCast]
theorem ptR_no {number : Nat} {n : Int} {ps : List Pl} (h : fitsB ps n = false) : ptR number ps n = [] := by rw [ptR, if_neg (by rw [h]; decide)]

/-- What DepthCounts tells. -/
def depOk (ps : List Pl) (n d : Int) : Bool := fitsB ps n && inB d 0 5
def depR (ps : List Pl) (n d : Int) : List Int := if depOk ps n d = true then depL ps n.toNat d.toNat else []
theorem depR_no {ps : List Pl} {n d : Int} (h : depOk ps n d = false) : depR ps n d = [] := by rw [depR, if_neg (by rw [h]; decide)]
theorem depOk_out {ps : List Pl} {n d : Int} (h : d < 0 ∨ 5 < d) : depOk ps n d = false := by
  have : inB d 0 5 = false := by unfold inB; exact decide_eq_false (by omega)
  rw [depOk, this, Bool.and_false]
theorem depOk_in {ps : List Pl} {n d : Int} (h0 : 0 ≤ d) (h5 : d ≤ 5) : depOk ps n d = fitsB ps n := by
  have : inB d 0 5 = true := by unfold inB; exact decide_eq_true (by omega)
  rw [depOk, this, Bool.and_true]
theorem depR_in {ps : List Pl} {n : Int} {d : Nat} (h5 : d ≤ 5) : depR ps n (d : Int) = ptR d ps n := by
  rw [depR, depOk_in (by omega) (by omega), ptR]
  have : wayP n.toNat d = depP d := by funext i; unfold wayP; rw [if_pos (by omega)]
  rw [this, ← dep_pts, Int.toNat_natCast]
end Go.Proofs.Ytgkakgibgfehaaa

namespace Go.Proofs.Ytgkakgibgfehaaa
open Go.RowKit

attribute [local go_sem] Oper.semAt_some

set_option maxRecDepth 100000 in
set_option maxHeartbeats 4000000 in
/-- **spec.l14Depth**. -/
theorem specDepth0_as (a : Option Addr) (len cap : Nat) (ps : List Pl) (N : Nat) (d : Nat) (w : World) (h : IsPiles w a len cap ps) (hs : Small ps) (hv : fitsB ps (N : Int) = true) :
    Calls Tq.prog 64 #[.slice a len cap, .int .i64 (N : Int), .int .i64 (d : Int)] w fun e w' => ∃ g, e = .returned (.slice (some ⟨g, 0, none⟩) N N) ∧ w'.ownsRow w.heap.size 3 1 (.slice (some ⟨g, 0, none⟩) N N) N ((ptL (depP d) ps N).map (Value.int .i64)) ∧ Below w.heap.size w w' := by
  obtain ⟨i0, hi, hz0, hz1, hz2⟩ := info_parts int_info
  have HI := Lib.hid h
  have HS := Lib.hid hs
  have H1 := Lib.hid h.1
  obtain ⟨hp, hn1, hn5, -⟩ := fits_parts hv
  have hl12 : len ≤ 12 := by have := (pilesB_pos hp).2.2.2.2; rw [H1.out] at this; exact this
  have HV := Lib.hid hv
  have HP := Lib.hid hp
  have hN1 : 1 ≤ N := by omega
  have hN5 : N ≤ 5 := by omega
  have HPB : Hid (∀ i, i < N → 0 ≤ (depP d) i ∧ (depP d) i ≤ 5) := depP_bound d N
  clear h hs hv hp
  obtain ⟨g, hg⟩ : ∃ g, w.heap.size = g := ⟨_, rfl⟩
  go_enter Tq.func64, Tq.ntmps64
  go_wp2_with (at_make; refine wpList_make_full _ rfl _ _ 27 rfl w.heap.size 3 i0 (.int .i64 0) 1 Tq.underlying27 hi hz0 hz1 .i64 .i64 _ _ N rfl rfl rfl rfl (by rw [hz2]; omega) (by unfold maxLen; omega) (Nat.le_refl _) ?_; intro w3 hown hgrow)
  have hb3 : Below g w w3 := hg ▸ (Below.refl _ w).grown hgrow (Nat.le_refl _) (fun k e => by cases e)
  rw [hg] at hown
  have O3 : Hid (w3.ownsRow g 3 1 (.slice (some ⟨g, 0, none⟩) N N) N ((ptL (depP d) (ps.take 0) N).map (Value.int .i64))) := by
    unfold Hid; rw [List.take_zero, ptL_nil, ← zeros_made]
    exact hown
  have HG := Lib.hid hg
  clear hown hgrow hg hi hz0 hz1 hz2
  go_wp2
  go_loopw [8, 9, 10, 11] (fun iv _ _ _ wr => ∃ i : Nat, i ≤ len ∧ iv = .int .i64 (i : Int) ∧ Hid (wr.ownsRow g 3 1 (.slice (some ⟨g, 0, none⟩) N N) N ((ptL (depP d) (ps.take i) N).map (Value.int .i64))) ∧ Below g w wr) (fun iv _ _ _ _ => len - (intOf iv).toNat)
  case atStart => exact ⟨0, Nat.zero_le _, rfl, O3, hb3⟩
  case round =>
    clear O3 hb3
    obtain ⟨i, hil, rfl, hO, hB⟩ := hrel
    have hgr : g ≤ wr.heap.size := by have := hB.size; rw [HG.out] at this; exact this
    have hBw : Below w.heap.size w wr := HG.out.symm ▸ hB
    by_cases hlt : i < len
    · obtain ⟨b, off, rfl, hb, c0, c1⟩ := (HI.out.below hBw).at_text hlt
      have hbw : b < w.heap.size := by
        obtain ⟨b', off', e, hb', -⟩ := HI.out.at_text hlt
        injection e with e
        injection e with e
        omega
      obtain ⟨t, ht⟩ : ∃ t, tAt ps i = t := ⟨_, rfl⟩
      obtain ⟨m, hm⟩ : ∃ m, mAt ps i = m := ⟨_, rfl⟩
      obtain ⟨pl, hpl⟩ : ∃ pl, parseL t = pl := ⟨_, rfl⟩
      have hst : t.size ≤ 1048600 := by rw [← ht]; exact HS.out i
      have hm99 : 0 ≤ m ∧ m ≤ 99 := by rw [← hm]; exact mAt_valid HP.out i
      have hips : i < ps.length := by rw [H1.out]; exact hlt
      have hvN : validB pl (N : Int) = true := by rw [← hpl, ← ht]; exact (fits_parts HV.out).2.2.2 i hips
      have hlN : pl.length ≤ N := by have := vB_short hvN; omega
      have HNX : Hid (addTo (depP d) m pl pl.length (ptL (depP d) (ps.take i) N) = ptL (depP d) (ps.take (i + 1)) N) := by
        have := ptL_next (P := (depP d)) (n := N) hips (by rw [ht, hpl]; exact hvN)
        rw [ht, hm, hpl] at this; exact this
      have HBD : Hid (∀ x : Nat, 0 ≤ (ptL (depP d) (ps.take i) N)[x]?.getD 0 ∧ (ptL (depP d) (ps.take i) N)[x]?.getD 0 ≤ 5940) := fun x => ptL_bound HPB.out HV.out i x
      have HZ : Hid (∀ z ∈ pl, 0 ≤ z ∧ z < (N : Int)) := (vB_mem hvN).2.2
      obtain ⟨cs, hcs⟩ : ∃ cs, ptL (depP d) (ps.take i) N = cs := ⟨_, rfl⟩
      have hcl : cs.length = N := by rw [← hcs]; exact ptL_length _ _ _
      rw [hcs] at hO HNX HBD
      rw [ht] at c0
      rw [hm] at c1
      have HPL := Lib.hid hpl
      clear ht hpl hm hBw hcs hips hvN
      go_wp2_with fail
      refine (specParse_as t pl _ _ hst HPL.out rfl).mono ?_
      rintro e w4 ⟨a4, c4, rfl, ho4, hb4⟩
      have cm : w4.cell? ⟨b, off + i * 2 + 1, none⟩ = some (.int .i64 m) := (hb4.cell (p := ⟨b, off + i * 2 + 1, none⟩) hb).trans c1
      have hO4 : Hid (w4.ownsRow g 3 1 (.slice (some ⟨g, 0, none⟩) N N) N ((addTo (depP d) m pl 0 cs).map (Value.int .i64))) := owns_under hO.out hb4
      have hgl : g < wr.heap.size := (hO.out.lt g rfl).2
      have B4 : Below g w w4 := hB.trans (hb4.mono hgr)
      have I4' : w4.ownsRow (g + 1) 3 1 (.slice a4 pl.length c4) pl.length (pl.map (Value.int .i64)) := ho4.mono (by omega)
      have I4 := Lib.hid I4'
      have hbg : b < g := by rw [← HG.out]; exact hbw
      clear ho4 hb4 hO hB c0 c1 hgr I4' hb
      go_wp2
      go_loopw [11] (fun jv wr => ∃ j : Nat, j ≤ pl.length ∧ jv = .int .i64 (j : Int) ∧ j ≤ d ∧ Hid (wr.ownsRow g 3 1 (.slice (some ⟨g, 0, none⟩) N N) N ((addTo (depP d) m pl j cs).map (Value.int .i64))) ∧ Hid (wr.ownsRow (g + 1) 3 1 (.slice a4 pl.length c4) pl.length (pl.map (Value.int .i64))) ∧ Hid (wr.cell? ⟨b, off + i * 2 + 1, none⟩ = some (.int .i64 m)) ∧ Below g w wr) (fun jv _ => pl.length - (intOf jv).toNat)
      case atStart => exact ⟨0, Nat.zero_le _, rfl, Nat.zero_le _, hO4, I4, cm, B4⟩
      case round =>
        clear hO4 I4 cm B4
        rename World => wx
        obtain ⟨j, hjl, rfl, hjd0, hO, hI, hm1, hB⟩ := hrel
        by_cases hlj : j < pl.length
        · by_cases hjd : j < d
          · have hjdi : (j : Int) < (d : Int) := by omega
            obtain ⟨b4, o4, rfl, -, hc4⟩ := (IsInts.of_owned hI.out (by omega)).2.2.2 (by omega)
            have hz := hc4 j hlj
            obtain ⟨z, hzz⟩ : ∃ z, pl[j]?.getD 0 = z := ⟨_, rfl⟩
            rw [hzz] at hz
            have hzr : 0 ≤ z ∧ z < (N : Int) := HZ.out z (by rw [← hzz]; simp [hlj])
            obtain ⟨x, rfl⟩ := Int.eq_ofNat_of_zero_le hzr.1
            have hxN : x < N := by omega
            obtain ⟨cv, hcv⟩ : ∃ cv, (addTo (depP d) m pl j cs)[x]?.getD 0 = cv := ⟨_, rfl⟩
            have hcvb : 0 ≤ cv ∧ cv ≤ 8415 := by
              have := addTo_bound (zs := pl) hm99 HPB.out HBD.out j (by omega) x
              rw [hcv] at this; omega
            have hval : m * depP d j = m := by unfold depP; rw [if_pos hjd, Int.mul_one]
            have hcell : wx.drew.cell? ⟨g, x, none⟩ = some (.int .i64 cv) := by
              have h1 : wx.drew.cell? ⟨g, x, none⟩ = wx.cell? ⟨g, x, none⟩ := rfl
              rw [h1, hO.out.cellAt x (by omega), ← hcv]
              have : x < (addTo (depP d) m pl j cs).length := by rw [addTo_length]; omega
              simp [this]
            have hcell0 : wx.cell? ⟨g, x, none⟩ = some (.int .i64 cv) := hcell
            have hfz : wx.drew.frozen? ⟨g, x, none⟩ = false := hO.out.frozenAt x
            have O7 : Hid ((wx.drew.setCell ⟨g, x, none⟩ (.int .i64 (cv + m))).ownsRow g 3 1 (.slice (some ⟨g, 0, none⟩) N N) N ((addTo (depP d) m pl (j + 1) cs).map (Value.int .i64))) := by
              have h1 := (hO.out.stored x (.int .i64 (cv + m))).1
              unfold Hid
              rw [addTo_succ, hzz, Int.toNat_natCast, hcv, hval, ← map_set_int]
              exact h1
            have I7 : Hid ((wx.drew.setCell ⟨g, x, none⟩ (.int .i64 (cv + m))).ownsRow (g + 1) 3 1 (.slice (some ⟨b4, o4, none⟩) pl.length c4) pl.length (pl.map (Value.int .i64))) := by
              refine World.ownsRow.kept hI.out (row := some g) (w' := wx.drew.setCell ⟨g, x, none⟩ (.int .i64 (cv + m))) ⟨rfl, rfl, rfl, by simp [World.setCell], fun k hk hne => Below.heap_setCell _ _ _ _ (by show k ≠ g; intro e; exact hne (by rw [e]))⟩ ?_
              cases hbl : (Value.slice (some ⟨b4, o4, none⟩) pl.length c4).ownBlock with
              | none => exact .inl rfl
              | some jj => right; intro e; injection e with e; have := (hI.out.lt jj hbl).1; omega
            have M7 : Hid ((wx.drew.setCell ⟨g, x, none⟩ (.int .i64 (cv + m))).cell? ⟨b, off + i * 2 + 1, none⟩ = some (.int .i64 m)) := by
              unfold Hid
              rw [World.cell?_setCell_other _ _ _ _ (by intro e; injection e with e _; omega)]
              exact hm1.out
            have B7 : Below g w (wx.drew.setCell ⟨g, x, none⟩ (.int .i64 (cv + m))) := (hB.drew).setCell (p := ⟨g, x, none⟩) (Nat.le_refl _) _
            have hm2 := hm1.out
            have hxi : (x : Int) < (N : Int) := by omega
            have hji : (j : Int) < (pl.length : Int) := by omega
            clear hc4 hcv hzz hO hI hm1 hval
            go_wp2_with fail
            refine region_quiet_tail 18 (by kernel_rfl) (by kernel_rfl) ?_
            simp only [List.take_succ_cons, List.take_zero, List.drop_succ_cons, List.drop_zero]
            repeat (go_big_quiet_step (fail))
            refine wpQuiet_nil ?_
            generalize wx.drew = w6 at O7 I7 M7 B7 hcell hfz ⊢
            go_wp2
            go_roundw
            case rel => exact ⟨j + 1, by omega, by go_num, by omega, O7, I7, M7, B7⟩
            case measure => simp [intOf]; omega
          · have hjdi : ¬ (j : Int) < (d : Int) := by omega
            have hji : (j : Int) < (pl.length : Int) := by omega
            have hO9 : wx.ownsRow g 3 1 (.slice (some ⟨g, 0, none⟩) N N) N ((ptL (depP d) (ps.take (i + 1)) N).map (Value.int .i64)) := by
              have h1 := hO.out
              have h2 : addTo (depP d) m pl pl.length cs = addTo (depP d) m pl j cs := by
                rw [addTo_stop (d := d) (fun k hk => by unfold depP; rw [if_neg (by omega)]) cs pl.length (by omega), addTo_stop (d := d) (fun k hk => by unfold depP; rw [if_neg (by omega)]) cs j (by omega)]
              rw [← h2, HNX.out] at h1
              exact h1
            have hO8 := Lib.hid hO9
            clear hO9 hO
            go_wp2
            go_roundw
            case rel => exact ⟨i + 1, by omega, by go_num, hO8, hB⟩
            case measure => simp [intOf]; omega
        · obtain rfl : j = pl.length := by omega
          have hO9 := hO.out
          rw [HNX.out] at hO9
          have hO8 := Lib.hid hO9
          clear hO9
          go_wp2
          go_roundw
          case rel => exact ⟨i + 1, by omega, by go_num, hO8, hB⟩
          case measure => simp [intOf]; omega
    · obtain rfl : i = len := by omega
      have hO9 : Hid (wr.ownsRow g 3 1 (.slice (some ⟨g, 0, none⟩) N N) N ((ptL (depP d) ps N).map (Value.int .i64))) := by
        have := hO.out; rw [List.take_of_length_le (by rw [H1.out]; exact Nat.le_refl _)] at this; exact this
      go_wp2
      go_ret
      exact ⟨g, rfl, HG.out.symm ▸ hO9.out, hBw⟩

end Go.Proofs.Ytgkakgibgfehaaa

namespace Go.Proofs.Ytgkakgibgfehaaa
open Go.RowKit

theorem ints_one (zs : List Int) : ∀ u ∈ zs.map (Value.int .i64), u.oneCell' = true := by
  intro u hu
  obtain ⟨z, _, rfl⟩ := List.mem_map.1 hu
  simp [Value.oneCell']

/-- The cells behind a piece of a slice of ints: from off + p on, the first m of what is left. -/
theorem piece_cells {w : World} {b off len : Nat} {zs : List Int} (hz : zs.length = len) (hc : ∀ j, j < len → w.cell? ⟨b, off + j, none⟩ = some (.int .i64 (zs[j]?.getD 0))) (p m q : Nat) (hpm : p + m ≤ len) (hq : q = off + p) :
    ∀ j u, (((zs.drop p).take m).map (Value.int .i64))[j]? = some u → w.cell? ((⟨b, q, none⟩ : Addr).add j) = some u := by
  intro j u hj
  have hjm : j < m := by
    rcases Nat.lt_or_ge j m with h | h
    · exact h
    · rw [List.getElem?_eq_none (by simp; omega)] at hj; cases hj
  have hadd : (⟨b, q, none⟩ : Addr).add j = ⟨b, off + (p + j), none⟩ := by
    subst hq
    by_cases h : j = 0
    · subst h; simp [Addr.add]
    · simp [Addr.add, h]; omega
  rw [hadd, hc (p + j) (by omega)]
  rw [List.getElem?_map, List.getElem?_take_of_lt hjm, List.getElem?_drop] at hj
  have hlt : p + j < zs.length := by omega
  rw [List.getElem?_eq_getElem hlt] at hj ⊢
  simpa using hj

/-- .. all that is left from p on. -/
theorem piece_rest {w : World} {b off len : Nat} {zs : List Int} (hz : zs.length = len) (hc : ∀ j, j < len → w.cell? ⟨b, off + j, none⟩ = some (.int .i64 (zs[j]?.getD 0))) (p q : Nat) (hp : p ≤ len) (hq : q = off + p) :
    ∀ j u, ((zs.drop p).map (Value.int .i64))[j]? = some u → w.cell? ((⟨b, q, none⟩ : Addr).add j) = some u := by
  have h := piece_cells hz hc p (len - p) q (by omega) hq
  have e : (zs.drop p).take (len - p) = zs.drop p := List.take_of_length_le (by simp; omega)
  rwa [e] at h
theorem rest_none {zs : List Int} {p : Nat} (hp : zs.length ≤ p) : ∀ (j : Nat) (u : Value), ((zs.drop p).map (Value.int .i64))[j]? = some u → False := by
  intro j u h
  rw [List.drop_of_length_le hp] at h
  simp at h
/-- An append to a new slice leaves the cells of an older block as they were. -/
theorem kept_cells {w w5 : World} {t : TypeId} {g off len n c : Nat} {zs : List Int} (hg : g < w.heap.size) (h : (w.alloc (.cells #[] t)).drew.grownBy w5 (Value.slice (some ⟨w.heap.size, 0, none⟩) n c).ownBlock)
    (hc : ∀ j, j < len → w.cell? ⟨g, off + j, none⟩ = some (.int .i64 (zs[j]?.getD 0))) : ∀ j, j < len → w5.cell? ⟨g, off + j, none⟩ = some (.int .i64 (zs[j]?.getD 0)) := fun j hj =>
  (World.cell?_of_block (w := w) ((h.block g (by show g < (w.alloc _).heap.size; simp; omega) (fun e => by
    have : (some g : Option Nat) = some w.heap.size := e
    injection this with e2
    omega)).trans (Below.heap_alloc w _ g hg))).trans (hc j hj)
end Go.Proofs.Ytgkakgibgfehaaa

namespace Go.Proofs.Ytgkakgibgfehaaa
open Go.RowKit

attribute [local go_sem] Oper.semAt_some

theorem bool_info10 : (Tq.prog.info? 4).map (fun i => (i.zero, i.size, i.bytes)) = some (some (.bool false), 1, 1) := by kernel_rfl
theorem boolsRow_is {w : World} {base n c : Nat} {a : Option Addr} {L : List Bool} (h : w.ownsRow base 4 1 (.slice a n c) n (L.map Value.bool)) (hl : L.length = n) (hn : n ≤ 1048600) : IsBools w a n c L := by
  rcases h.2 with ⟨e1, e0⟩ | ⟨g, c', cur, e1, hb, hg, hc1, hc2, _⟩
  · injection e1 with e1 _ e3
    subst e1 e3 e0
    exact ⟨hl, Nat.le_refl _, hn, fun hp => by omega⟩
  · injection e1 with e1 _ e3
    subst e1 e3
    refine ⟨hl, hc1, hn, fun hp => ⟨g, 0, rfl, (h.lt g rfl).2, fun j hj => ?_⟩⟩
    rw [Nat.zero_add, h.cellAt j (by omega)]
    simp [hl, hj]

set_option maxRecDepth 100000 in
set_option maxHeartbeats 2000000 in
/-- **l11All**. -/
theorem all11_as (n : Nat) (w : World) (hn : n ≤ 5) :
    Calls Tq.prog 71 #[.int .i64 (n : Int)] w fun e w' => ∃ a c, e = .returned (.slice a n c) ∧ w'.ownsRow w.heap.size 4 1 (.slice a n c) n ((allL n).map Value.bool) ∧ Below w.heap.size w w' := by
  obtain ⟨i0, hi, hz0, hz1, hz2⟩ := info_parts bool_info10
  have HE0 := Lib.hid (World.ownsRow_lit (base := w.heap.size) (e := 4) (size := 1) w #[] 0 (Nat.le_refl _) (by unfold maxLen; omega) rfl)
  have HB0 : Below w.heap.size w (w.alloc (.cells #[] 4)) := (Below.refl _ w).alloc (Nat.le_refl _) _
  go_enter Tq.func71, Tq.ntmps71
  go_wp2
  go_loopw [3, 4] (fun rv iv wr => ∃ (k : Nat) (a : Option Addr) (cap : Nat), k ≤ n ∧ iv = .int .i64 (k : Int) ∧ rv = .slice a k cap ∧ Hid (wr.ownsRow w.heap.size 4 1 (.slice a k cap) k ((allL k).map Value.bool)) ∧ Below w.heap.size w wr) (fun _ iv _ => n - (intOf iv).toNat)
  case atStart => exact ⟨0, _, _, Nat.zero_le _, rfl, rfl, HE0.out, HB0⟩
  case round =>
    clear HE0 HB0
    obtain ⟨k, a, cap, hk, rfl, rfl, ho, hB⟩ := hrel
    by_cases hlt : k < n
    · go_wp2_with (at_builtin; refine wpList_append_own _ rfl _ _ 24 rfl w.heap.size 4 i0 (.bool false) 1 1 Tq.underlying24 hi hz0 hz1 hz2 rfl (by decide) _ _ _ rfl (ho.out.alloc _) ⟨wr.heap.size, 0, none⟩ 1 1 [.bool true] rfl rfl (cell_one_new _ _ _) (by simp [Value.oneCell']) (by unfold maxLen; omega) (by omega) (by have := hB.size; simp; omega) ?_; intro v' w4 hown' hgrow _; obtain ⟨a4, cap4, rfl⟩ := owns_slice hown')
      have hrow : ∀ j, (Value.slice a k cap).ownBlock = some j → w.heap.size ≤ j := fun j ej => (ho.out.lt j ej).1
      have hB4 := (hB.alloc hB.size (.cells #[.bool true] 4)).grown hgrow (by have := hB.size; simp; omega) (fun j e => hrow j e)
      have HO4 : Hid (w4.ownsRow w.heap.size 4 1 (.slice a4 (k + 1) cap4) (k + 1) ((allL (k + 1)).map Value.bool)) := by
        unfold Hid; rw [allL, List.replicate_succ', List.map_append]; exact hown'
      clear hown' hgrow hrow
      go_wp2
      go_roundw
      case rel => exact ⟨k + 1, a4, cap4, by omega, by go_num, rfl, HO4.out, hB4⟩
      case measure => simp [intOf]; omega
    · obtain rfl : k = n := by omega
      go_wp2
      go_ret
      exact ⟨a, cap, rfl, ho.out, hB⟩

/-- What l11Most has found so far. -/
def mostTo (cs : List Int) (s : List Bool) (m : Int) (k : Nat) : List Bool := (List.range k).map fun i => s[i]?.getD false && (cs[i]?.getD 0 == m)
theorem mostTo_succ (cs : List Int) (s : List Bool) (m : Int) (k : Nat) : mostTo cs s m (k + 1) = mostTo cs s m k ++ [s[k]?.getD false && (cs[k]?.getD 0 == m)] := by simp [mostTo, List.range_succ]
set_option maxRecDepth 100000 in
set_option maxHeartbeats 4000000 in
/-- **l11Most**. -/
theorem most11_as (a : Option Addr) (n cap : Nat) (cs : List Int) (a' : Option Addr) (cap' : Nat) (s : List Bool) (w : World) (h : IsInts w a n cap cs) (h' : IsBools w a' n cap' s) (L : List Bool) (hL : mostL cs s = L) :
    Calls Tq.prog 70 #[.slice a n cap, .slice a' n cap'] w fun e w' => ∃ a c, e = .returned (.slice a n c) ∧ w'.ownsRow w.heap.size 4 1 (.slice a n c) n (L.map Value.bool) ∧ Below w.heap.size w w' := by
  obtain ⟨i0, hi, hz0, hz1, hz2⟩ := info_parts bool_info10
  obtain ⟨h1, h2, h3, h4⟩ := h
  obtain ⟨g1, g2, g3, g4⟩ := id h'
  have H1 := Lib.hid h1
  have H4 := Lib.hid h4
  have G4 := Lib.hid g4
  have HL := Lib.hid hL
  clear h1 h4 g4 g1 hL h'
  go_enter Tq.func70, Tq.ntmps70
  go_wp2
  go_loop [5, 6] (fun bv iv => ∃ (i : Nat) (m : Int), i ≤ n ∧ iv = .int .i64 (i : Int) ∧ bv = .int .i64 m ∧ Hid (bestS cs s i = m)) (fun _ iv => n - (intOf iv).toNat)
  case atStart => exact ⟨0, -1, Nat.zero_le _, rfl, rfl, bestS_zero _ _⟩
  case round =>
    obtain ⟨i, m, hin, rfl, rfl, hM⟩ := hrel
    by_cases hlt : i < n
    · obtain ⟨b, off, rfl, hb, hc⟩ := H4.out (by omega)
      obtain ⟨b', off', rfl, hb', hc'⟩ := G4.out (by omega)
      have ci := hc i hlt
      have si := hc' i hlt
      obtain ⟨z, hz⟩ : ∃ z, cs[i]?.getD 0 = z := ⟨_, rfl⟩
      obtain ⟨u, hu⟩ : ∃ u, s[i]?.getD false = u := ⟨_, rfl⟩
      rw [hz] at ci
      rw [hu] at si
      have HN : Hid (bestS cs s (i + 1) = if u = true then max m z else m) := by rw [Hid, bestS_succ, hu, hz, hM.out]
      clear hc hc' hz hu
      cases u
      · have HN2 : Hid (bestS cs s (i + 1) = m) := by rw [Hid, HN.out]; rfl
        clear HN
        go_wp2
        go_round
        case rel => exact ⟨i + 1, m, by omega, by go_num, rfl, HN2⟩
        case measure => simp [intOf]; omega
      · by_cases hmz : m < z
        · have HN2 : Hid (bestS cs s (i + 1) = z) := by rw [Hid, HN.out, if_pos rfl]; omega
          clear HN
          go_wp2
          go_round
          case rel => exact ⟨i + 1, z, by omega, by go_num, by first | rfl | (congr 1; omega), HN2⟩
          case measure => simp [intOf]; omega
        · have HN2 : Hid (bestS cs s (i + 1) = m) := by rw [Hid, HN.out, if_pos rfl]; omega
          clear HN
          go_wp2
          go_round
          case rel => exact ⟨i + 1, m, by omega, by go_num, by first | rfl | (congr 1; omega), HN2⟩
          case measure => simp [intOf]; omega
    · obtain rfl : i = n := by omega
      have HL2 : Hid (mostTo cs s m i = L) := by rw [Hid, ← HL.out, mostL, H1.out, hM.out]; rfl
      have HE0 := Lib.hid (World.ownsRow_lit (base := w.heap.size) (e := 4) (size := 1) w #[] 0 (Nat.le_refl _) (by unfold maxLen; omega) rfl)
      have HB0 : Below w.heap.size w (w.alloc (.cells #[] 4)) := (Below.refl _ w).alloc (Nat.le_refl _) _
      go_wp2
      go_loopw [7, 8] (fun rv iv wr => ∃ (k : Nat) (a : Option Addr) (cap : Nat), k ≤ i ∧ iv = .int .i64 (k : Int) ∧ rv = .slice a k cap ∧ Hid (wr.ownsRow w.heap.size 4 1 (.slice a k cap) k ((mostTo cs s m k).map Value.bool)) ∧ Below w.heap.size w wr) (fun _ iv _ => i - (intOf iv).toNat)
      case atStart => exact ⟨0, _, _, Nat.zero_le _, rfl, rfl, HE0.out, HB0⟩
      case round =>
        clear HE0 HB0
        obtain ⟨k, ar, cr, hk, rfl, rfl, ho, hB⟩ := hrel
        by_cases hlt : k < i
        · obtain ⟨b, off, rfl, hb, hc⟩ := H4.out (by omega)
          obtain ⟨b', off', rfl, hb', hc'⟩ := G4.out (by omega)
          have ck : wr.cell? ⟨b, off + k, none⟩ = _ := (hB.cell (p := ⟨b, off + k, none⟩) hb).trans (hc k hlt)
          have sk : wr.cell? ⟨b', off' + k, none⟩ = _ := (hB.cell (p := ⟨b', off' + k, none⟩) hb').trans (hc' k hlt)
          obtain ⟨z, hz⟩ : ∃ z, cs[k]?.getD 0 = z := ⟨_, rfl⟩
          obtain ⟨u, hu⟩ : ∃ u, s[k]?.getD false = u := ⟨_, rfl⟩
          obtain ⟨q, hq⟩ : ∃ q, (z == m) = q := ⟨_, rfl⟩
          rw [hz] at ck
          rw [hu] at sk
          have HN : Hid (mostTo cs s m (k + 1) = mostTo cs s m k ++ [u && q]) := by rw [Hid, mostTo_succ, hu, hz, hq]
          clear hc hc' hz hu
          cases u
          · skip
            go_wp2_with (at_builtin; refine wpList_append_own _ rfl _ _ 24 rfl w.heap.size 4 i0 (.bool false) 1 1 Tq.underlying24 hi hz0 hz1 hz2 rfl (by decide) _ _ _ rfl (ho.out.alloc _) ⟨wr.heap.size, 0, none⟩ 1 1 [.bool (false)] rfl rfl (cell_one_new _ _ _) (by simp [Value.oneCell']) (by unfold maxLen; omega) (by omega) (by have := hB.size; simp; omega) ?_; intro v' w4 hown' hgrow _; obtain ⟨a4, cap4, rfl⟩ := owns_slice hown')
            have hrow : ∀ j, (Value.slice ar k cr).ownBlock = some j → w.heap.size ≤ j := fun j ej => (ho.out.lt j ej).1
            have hB4 := (hB.alloc hB.size (.cells #[.bool (false)] 4)).grown hgrow (by have := hB.size; simp; omega) (fun j e => hrow j e)
            have HO4 : Hid (w4.ownsRow w.heap.size 4 1 (.slice a4 (k + 1) cap4) (k + 1) ((mostTo cs s m (k + 1)).map Value.bool)) := by
              unfold Hid; rw [HN.out, List.map_append]; exact hown'
            clear hown' hgrow hrow
            go_wp2
            go_roundw
            case rel => exact ⟨k + 1, a4, cap4, by omega, by go_num, rfl, HO4.out, hB4⟩
            case measure => simp [intOf]; omega
          · skip
            go_wp2_with (at_builtin; refine wpList_append_own _ rfl _ _ 24 rfl w.heap.size 4 i0 (.bool false) 1 1 Tq.underlying24 hi hz0 hz1 hz2 rfl (by decide) _ _ _ rfl (ho.out.alloc _) ⟨wr.heap.size, 0, none⟩ 1 1 [.bool (q)] rfl rfl (cell_one_new _ _ _) (by simp [Value.oneCell']) (by unfold maxLen; omega) (by omega) (by have := hB.size; simp; omega) ?_; intro v' w4 hown' hgrow _; obtain ⟨a4, cap4, rfl⟩ := owns_slice hown')
            have hrow : ∀ j, (Value.slice ar k cr).ownBlock = some j → w.heap.size ≤ j := fun j ej => (ho.out.lt j ej).1
            have hB4 := (hB.alloc hB.size (.cells #[.bool (q)] 4)).grown hgrow (by have := hB.size; simp; omega) (fun j e => hrow j e)
            have HO4 : Hid (w4.ownsRow w.heap.size 4 1 (.slice a4 (k + 1) cap4) (k + 1) ((mostTo cs s m (k + 1)).map Value.bool)) := by
              unfold Hid; rw [HN.out, List.map_append]; exact hown'
            clear hown' hgrow hrow
            go_wp2
            go_roundw
            case rel => exact ⟨k + 1, a4, cap4, by omega, by go_num, rfl, HO4.out, hB4⟩
            case measure => simp [intOf]; omega
        · obtain rfl : k = i := by omega
          go_wp2
          go_ret
          exact ⟨ar, cr, rfl, by rw [← HL2.out]; exact ho.out, hB⟩

end Go.Proofs.Ytgkakgibgfehaaa

namespace Go.Proofs.Ytgkakgibgfehaaa
open Go.RowKit

attribute [local go_sem] Oper.semAt_some

set_option maxHeartbeats 2000000 in
/-- **l14Over**. -/
theorem over14_as (a : Option Addr) (len cap : Nat) (cs : List Int) (total : Int) (v : Bool) (w : World) (h : IsInts w a len cap cs) (hb : ∀ x : Nat, 0 ≤ cs[x]?.getD 0 ∧ cs[x]?.getD 0 ≤ 10000) (hv : overL cs total = v) :
    Calls Tq.prog 67 #[.slice a len cap, .int .i64 total] w fun e w' => e = .returned (.bool v) ∧ w = w' := by
  obtain ⟨h1, h2, h3, h4⟩ := h
  have H1 := Lib.hid h1
  have H4 := Lib.hid h4
  have HB := Lib.hid hb
  have HV := Lib.hid hv
  clear h1 h4 hb hv
  go_enter Tq.func67, Tq.ntmps67
  go_wp2
  go_loop [5] (fun iv => ∃ i : Nat, i ≤ len ∧ iv = .int .i64 (i : Int) ∧ Hid (overTo cs total i = false)) (fun iv => len - (intOf iv).toNat)
  case atStart => exact ⟨0, Nat.zero_le _, rfl, overTo_zero _ _⟩
  case round =>
    obtain ⟨i, hil, rfl, hA⟩ := hrel
    by_cases hlt : i < len
    · obtain ⟨b, off, rfl, hb, hc⟩ := H4.out (by omega)
      have ci := hc i hlt
      obtain ⟨z, hz⟩ : ∃ z, cs[i]?.getD 0 = z := ⟨_, rfl⟩
      have hzb := HB.out i
      rw [hz] at ci hzb
      have HZ := Lib.hid hz
      clear hc hz
      by_cases ho : total < 2 * z
      · have hd : decide (total < 2 * z) = true := decide_eq_true ho
        go_wp2
        go_ret
        exact ⟨ret_bool (by rw [← HV.out, overL_hit (i := i) (by rw [H1.out]; exact hlt) (by rw [HZ.out]; exact ho)]), rfl⟩
      · have hd : decide (total < 2 * z) = false := decide_eq_false ho
        have HN : Hid (overTo cs total (i + 1) = false) := by rw [Hid, overTo_miss (by rw [H1.out]; exact hlt) (by rw [HZ.out]; exact ho)]; exact hA.out
        go_wp2
        go_round
        case rel => exact ⟨i + 1, by omega, by go_num, HN⟩
        case measure => simp [intOf]; omega
    · obtain rfl : i = len := by omega
      have HE : Hid (overL cs total = false) := by rw [Hid, ← overTo_all total (k := i) (by rw [H1.out]; exact Nat.le_refl _)]; exact hA.out
      go_wp2
      go_ret
      exact ⟨ret_bool (by rw [← HV.out, HE.out]), rfl⟩

end Go.Proofs.Ytgkakgibgfehaaa

namespace Go.Proofs.Ytgkakgibgfehaaa
open Go.RowKit

attribute [local go_sem] Oper.semAt_some

/-- A point, if something is true. -/
def oneI (b : Bool) : Int := if b = true then 1 else 0
theorem onePoint_any (b : Bool) (w : World) : Calls Tq.prog 129 #[.bool b] w fun e w' => e = .returned (.int .i64 (oneI b)) ∧ w = w' := by
  cases b
  · go_enter Tq.func129, Tq.ntmps129
    go_wp2
    go_ret
    exact ⟨rfl, rfl⟩
  · go_enter Tq.func129, Tq.ntmps129
    go_wp2
    go_ret
    exact ⟨rfl, rfl⟩
theorem wayPlace_any (i n : Nat) (w : World) (hi : i < n) (hn : n ≤ 5) : Calls Tq.prog 127 #[.int .i64 (i : Int), .int .i64 (n : Int)] w fun e w' => e = .returned (.int .i64 ((n : Int) - 1 - (i : Int))) ∧ w = w' := by
  go_enter Tq.func127, Tq.ntmps127
  go_wp2
  go_ret
  exact ⟨rfl, rfl⟩
theorem wayLast_any (i n : Nat) (w : World) (hi : i < n) (hn : n ≤ 5) : Calls Tq.prog 128 #[.int .i64 (i : Int), .int .i64 (n : Int)] w fun e w' => e = .returned (.int .i64 (oneI (decide (i = n - 1)))) ∧ w = w' := by
  obtain ⟨v, hv⟩ : ∃ v, ((i : Int) == (n : Int) - 1) = v := ⟨_, rfl⟩
  have HV : Hid (v = decide (i = n - 1)) := by
    rw [Hid, ← hv]
    by_cases e : i = n - 1
    · rw [decide_eq_true e]; exact beq_iff_eq.2 (by omega)
    · rw [decide_eq_false e]; exact beq_eq_false_iff_ne.2 (by omega)
  go_enter Tq.func128, Tq.ntmps128
  go_wp2_with fail
  refine (onePoint_any v _).mono ?_
  rintro e w1 ⟨rfl, rfl⟩
  go_wp2
  go_ret
  exact ⟨ret_int (by rw [HV.out]), rfl⟩
theorem wayDepth_any (g d i n : Nat) (w : World) (hc : w.cell? ⟨g, 0, none⟩ = some (.int .i64 (d : Int))) : Calls Tq.prog 130 #[.int .i64 (i : Int), .int .i64 (n : Int), .pointer (some ⟨g, 0, none⟩)] w fun e w' => e = .returned (.int .i64 (oneI (decide (i < d)))) ∧ w = w' := by
  obtain ⟨v, hv⟩ : ∃ v, decide (i < d) = v := ⟨_, rfl⟩
  have HV : Hid (v = decide (i < d)) := hv.symm
  go_enter Tq.func130, Tq.ntmps130
  go_wp2_with fail
  refine (onePoint_any v _).mono ?_
  rintro e w1 ⟨rfl, rfl⟩
  go_wp2
  go_ret
  exact ⟨ret_int (by rw [HV.out]), rfl⟩

end Go.Proofs.Ytgkakgibgfehaaa

namespace Go.Proofs.Ytgkakgibgfehaaa
open Go.RowKit

attribute [local go_sem] Oper.semAt_some

/-- The way of a depth. -/
def wayD (g : Nat) : Value := .func (.func 130) #[] #[.pointer (some ⟨g, 0, none⟩)]
/-- The table with the first d depths. -/
def slotV (G : Nat → Nat) (d j : Nat) : Value := if j < d then wayD (G j) else if j = 6 then .func (.func 127) #[] #[] else if j = 7 then .func (.func 128) #[] #[] else .nilFunc
structure Ways (B b d : Nat) (G : Nat → Nat) (w : World) : Prop where
  lt : b < w.heap.size
  cell : ∀ j, j < 8 → w.cell? ⟨b, j, none⟩ = some (slotV G d j)
  free : ∀ j, w.frozen? ⟨b, j, none⟩ = false
  own : ∀ j, j < d → w.cell? ⟨G j, 0, none⟩ = some (.int .i64 (j : Int)) ∧ B ≤ G j ∧ G j < w.heap.size ∧ b < G j
theorem Ways.step {B b d : Nat} {G : Nat → Nat} {w : World} (h : Ways B b d G w) (hd : d < 6) (hB : B ≤ w.heap.size) (t : TypeId) :
    Ways B b (d + 1) (fun j => if j = d then w.heap.size else G j) ((w.alloc (.cells #[.int .i64 (d : Int)] t)).setCell ⟨b, d, none⟩ (wayD w.heap.size)) := by
  have hb := h.lt
  have hn : (w.alloc (.cells #[.int .i64 (d : Int)] t)).heap.size = w.heap.size + 1 := by simp
  have hold : ∀ (p : Addr), p.block < w.heap.size → (w.alloc (.cells #[.int .i64 (d : Int)] t)).cell? p = w.cell? p := fun p hp => ((Below.refl w.heap.size w).alloc (Nat.le_refl _) _).cell hp
  have hfold : ∀ (p : Addr), p.block < w.heap.size → (w.alloc (.cells #[.int .i64 (d : Int)] t)).frozen? p = w.frozen? p := fun p hp => ((Below.refl w.heap.size w).alloc (Nat.le_refl _) _).frozen hp
  refine ⟨by simp [World.setCell]; omega, fun j hj => ?_, fun j => ?_, fun j hj => ?_⟩
  · by_cases e : j = d
    · subst e
      rw [World.cell?_setCell_same' _ _ _ (by rw [hold _ hb, h.cell j hj]; rfl)]
      simp [slotV]
    · rw [World.cell?_setCell_other _ _ _ _ (by intro q; injection q with _ q; omega), hold _ hb, h.cell j hj]
      unfold slotV
      by_cases g : j < d
      · rw [if_pos g, if_pos (show j < d + 1 by omega)]; simp only [if_neg e]
      · rw [if_neg g, if_neg (show ¬ j < d + 1 by omega)]
  · rw [World.frozen?_setCell, hfold _ hb]; exact h.free j
  · by_cases e : j = d
    · subst e
      simp only [if_true]
      refine ⟨?_, hB, by simp [World.setCell], hb⟩
      rw [World.cell?_setCell_other _ _ _ _ (by intro q; injection q with q _; omega)]
      exact (World.cell?_alloc_mark w _ t (0, 0) 0).trans rfl
    · obtain ⟨h1, h2, h3, h4⟩ := h.own j (by omega)
      rw [if_neg e]
      refine ⟨?_, h2, by simp [World.setCell]; omega, h4⟩
      rw [World.cell?_setCell_other _ _ _ _ (by intro q; injection q with q _; omega), hold _ h3]
      exact h1

theorem ways_start (w : World) (t : TypeId) : Ways w.heap.size (w.heap.size + 1) 0 (fun _ => 0) ((w.alloc (.cells #[.nilFunc, .nilFunc, .nilFunc, .nilFunc, .nilFunc, .nilFunc, .nilFunc, .nilFunc] t)).alloc (.cells #[.nilFunc, .nilFunc, .nilFunc, .nilFunc, .nilFunc, .nilFunc, .func (.func 127) #[] #[], .func (.func 128) #[] #[]] t)) := by
  have hn : (w.alloc (.cells #[.nilFunc, .nilFunc, .nilFunc, .nilFunc, .nilFunc, .nilFunc, .nilFunc, .nilFunc] t)).heap.size = w.heap.size + 1 := by simp
  refine ⟨by simp, fun j hj => ?_, fun j => ?_, fun j hj => by omega⟩
  · rw [← hn]
    refine (World.cell?_alloc_mark _ _ t (0, 0) j).trans ?_
    have : j = 0 ∨ j = 1 ∨ j = 2 ∨ j = 3 ∨ j = 4 ∨ j = 5 ∨ j = 6 ∨ j = 7 := by omega
    rcases this with rfl | rfl | rfl | rfl | rfl | rfl | rfl | rfl <;> rfl
  · rw [← hn]
    exact (World.frozen?_alloc_mark _ _ t 0 0 j).trans rfl
/-- The result's block. -/
def Res8 (b : Nat) (w : World) : Prop := b < w.heap.size ∧ (∀ j, j < 8 → w.cell? ⟨b, j, none⟩ = some .nilFunc) ∧ ∀ j, w.frozen? ⟨b, j, none⟩ = false
theorem res_start (w : World) (t : TypeId) (o : Obj) : Res8 w.heap.size ((w.alloc (.cells #[.nilFunc, .nilFunc, .nilFunc, .nilFunc, .nilFunc, .nilFunc, .nilFunc, .nilFunc] t)).alloc o) := by
  have hb : Below (w.heap.size + 1) (w.alloc (.cells #[.nilFunc, .nilFunc, .nilFunc, .nilFunc, .nilFunc, .nilFunc, .nilFunc, .nilFunc] t)) ((w.alloc (.cells #[.nilFunc, .nilFunc, .nilFunc, .nilFunc, .nilFunc, .nilFunc, .nilFunc, .nilFunc] t)).alloc o) := (Below.refl _ _).alloc (by simp) _
  refine ⟨by simp; omega, fun j hj => ?_, fun j => ?_⟩
  · refine (hb.cell (p := ⟨w.heap.size, j, none⟩) (Nat.lt_succ_self _)).trans ((World.cell?_alloc_mark _ _ t (0, 0) j).trans ?_)
    have : j = 0 ∨ j = 1 ∨ j = 2 ∨ j = 3 ∨ j = 4 ∨ j = 5 ∨ j = 6 ∨ j = 7 := by omega
    rcases this with rfl | rfl | rfl | rfl | rfl | rfl | rfl | rfl <;> rfl
  · exact (hb.frozen (p := ⟨w.heap.size, j, none⟩) (Nat.lt_succ_self _)).trans ((World.frozen?_alloc_mark _ _ t 0 0 j).trans rfl)
theorem Res8.step {b c d : Nat} {w : World} (h : Res8 b w) (hbc : b ≠ c) (o : Obj) (v : Value) : Res8 b ((w.alloc o).setCell ⟨c, d, none⟩ v) := by
  have hb : Below w.heap.size w (w.alloc o) := (Below.refl _ _).alloc (Nat.le_refl _) _
  refine ⟨by simp [World.setCell]; have := h.1; omega, fun j hj => ?_, fun j => ?_⟩
  · rw [World.cell?_setCell_other _ _ _ _ (by intro q; injection q with q _; exact hbc q.symm)]
    exact (hb.cell (p := ⟨b, j, none⟩) h.1).trans (h.2.1 j hj)
  · rw [World.frozen?_setCell]; exact (hb.frozen (p := ⟨b, j, none⟩) h.1).trans (h.2.2 j)

set_option maxRecDepth 100000 in
set_option maxHeartbeats 2000000 in
/-- **waysToCount**. -/
theorem ways_any (w : World) : Calls Tq.prog 98 #[] w fun e w' => ∃ G : Nat → Nat, e = .returned (.agg #[wayD (G 0), wayD (G 1), wayD (G 2), wayD (G 3), wayD (G 4), wayD (G 5), .func (.func 127) #[] #[], .func (.func 128) #[] #[]]) ∧
    (∀ j, j < 6 → w'.cell? ⟨G j, 0, none⟩ = some (.int .i64 (j : Int)) ∧ w.heap.size ≤ G j ∧ G j < w'.heap.size) ∧ Below w.heap.size w w' := by
  have hS := ways_start w 116
  have hR := res_start w 116 (.cells #[.nilFunc, .nilFunc, .nilFunc, .nilFunc, .nilFunc, .nilFunc, .func (.func 127) #[] #[], .func (.func 128) #[] #[]] 116)
  have HS := Lib.hid hS
  have HR := Lib.hid hR
  clear hS hR
  go_enter Tq.func98, Tq.ntmps98
  go_wp2
  go_loopw [2, 4] (fun _ dv wr => ∃ (d : Nat) (G : Nat → Nat), d ≤ 6 ∧ dv = .int .i64 (d : Int) ∧ Hid (Ways w.heap.size (w.heap.size + 1) d G wr) ∧ Hid (Res8 w.heap.size wr) ∧ Below w.heap.size w wr) (fun _ dv _ => 6 - (intOf dv).toNat)
  case atStart => exact ⟨0, fun _ => 0, by omega, rfl, HS, HR, ((Below.refl _ _).alloc (Nat.le_refl _) _).alloc (by simp) _⟩
  case round =>
    clear HS HR
    obtain ⟨d, G, hd, rfl, hW, hR, hB⟩ := hrel
    have hsz := hB.size
    by_cases hlt : d < 6
    · have hc := hW.out.cell d (by omega)
      have hf := hW.out.free d
      have hst := Lib.hid (hW.out.step hlt hsz 3)
      have hrs := Lib.hid (hR.out.step (c := w.heap.size + 1) (d := d) (by omega) (.cells #[.int .i64 (d : Int)] 3) (wayD wr.heap.size))
      have hbl := hW.out.lt
      have hb1 : Below w.heap.size w ((wr.alloc (.cells #[.int .i64 (d : Int)] 3)).setCell ⟨w.heap.size + 1, d, none⟩ (wayD wr.heap.size)) := (hB.alloc hsz _).setCell (p := ⟨w.heap.size + 1, d, none⟩) (by show w.heap.size ≤ w.heap.size + 1; omega) _
      have hbd : Below wr.heap.size wr (wr.alloc (.cells #[.int .i64 (d : Int)] 3)) := (Below.refl _ _).alloc (Nat.le_refl _) _
      have hc2 : (wr.alloc (.cells #[.int .i64 (d : Int)] 3)).cell? ⟨w.heap.size + 1, d, none⟩ = some (slotV G d d) := (hbd.cell (p := ⟨w.heap.size + 1, d, none⟩) hbl).trans hc
      have hf2 : (wr.alloc (.cells #[.int .i64 (d : Int)] 3)).frozen? ⟨w.heap.size + 1, d, none⟩ = false := (hbd.frozen (p := ⟨w.heap.size + 1, d, none⟩) hbl).trans hf
      have hdi : (d : Int) < 8 := by omega
      clear hc hf hbd
      obtain ⟨s0, hs0⟩ : ∃ s0, slotV G d d = s0 := ⟨_, rfl⟩
      rw [hs0] at hc2
      clear hs0
      have he : (wr.alloc (.cells #[.int .i64 (d : Int)] 3)).setCell ⟨w.heap.size + 1, d, none⟩ (wayD wr.heap.size) = (wr.setCell ⟨w.heap.size + 1, d, none⟩ (wayD wr.heap.size)).alloc (.cells #[.int .i64 (d : Int)] 3) := World.setCell_alloc_past _ _ _ _ hbl
      rw [he] at hst hrs hb1
      clear he
      go_wp2
      go_roundw
      case rel => exact ⟨d + 1, _, by omega, by go_num, hst, hrs, hb1⟩
      case measure => simp [intOf]; omega
    · obtain rfl : d = 6 := by omega
      have k0 := hW.out.cell 0 (by omega)
      have k1 := hW.out.cell 1 (by omega)
      have k2 := hW.out.cell 2 (by omega)
      have k3 := hW.out.cell 3 (by omega)
      have k4 := hW.out.cell 4 (by omega)
      have k5 := hW.out.cell 5 (by omega)
      have k6 := hW.out.cell 6 (by omega)
      have k7 := hW.out.cell 7 (by omega)
      simp only [slotV, wayD] at k0 k1 k2 k3 k4 k5 k6 k7
      have r0 := hR.out.2.1 0 (by omega)
      have r1 := hR.out.2.1 1 (by omega)
      have r2 := hR.out.2.1 2 (by omega)
      have r3 := hR.out.2.1 3 (by omega)
      have r4 := hR.out.2.1 4 (by omega)
      have r5 := hR.out.2.1 5 (by omega)
      have r6 := hR.out.2.1 6 (by omega)
      have r7 := hR.out.2.1 7 (by omega)
      have f0 := hR.out.2.2 0
      have f1 := hR.out.2.2 1
      have f2 := hR.out.2.2 2
      have f3 := hR.out.2.2 3
      have f4 := hR.out.2.2 4
      have f5 := hR.out.2.2 5
      have f6 := hR.out.2.2 6
      have f7 := hR.out.2.2 7
      have HO := Lib.hid hW.out.own
      clear hW hR
      go_wp2
      refine bodyPost_ret (v := .agg #[wayD (G 0), wayD (G 1), wayD (G 2), wayD (G 3), wayD (G 4), wayD (G 5), .func (.func 127) #[] #[], .func (.func 128) #[] #[]]) (by simp [results, go_sem, wayD, r0, r1, r2, r3, r4, r5, r6, r7]) rfl ?_
      have hset : ∀ (u : World) (o : Nat) (v : Value) (g : Nat), g ≠ w.heap.size → (u.setCell ⟨w.heap.size, o, none⟩ v).cell? ⟨g, 0, none⟩ = u.cell? ⟨g, 0, none⟩ := fun u o v g hg => World.cell?_setCell_other _ _ _ _ (by intro q; injection q with q _; exact hg q.symm)
      refine ⟨G, rfl, fun j hj => ?_, ?_⟩
      · obtain ⟨h1, h2, h3, h4⟩ := HO.out j hj
        refine ⟨?_, h2, by simpa [World.setCell] using h3⟩
        rw [hset _ _ _ _ (by omega), hset _ _ _ _ (by omega), hset _ _ _ _ (by omega), hset _ _ _ _ (by omega), hset _ _ _ _ (by omega), hset _ _ _ _ (by omega), hset _ _ _ _ (by omega), hset _ _ _ _ (by omega)]
        exact h1
      · exact (((((((hB.setCell (p := ⟨w.heap.size, 0, none⟩) (Nat.le_refl _) _).setCell (p := ⟨w.heap.size, 1, none⟩) (Nat.le_refl _) _).setCell (p := ⟨w.heap.size, 2, none⟩) (Nat.le_refl _) _).setCell (p := ⟨w.heap.size, 3, none⟩) (Nat.le_refl _) _).setCell (p := ⟨w.heap.size, 4, none⟩) (Nat.le_refl _) _).setCell (p := ⟨w.heap.size, 5, none⟩) (Nat.le_refl _) _).setCell (p := ⟨w.heap.size, 6, none⟩) (Nat.le_refl _) _).setCell (p := ⟨w.heap.size, 7, none⟩) (Nat.le_refl _) _

end Go.Proofs.Ytgkakgibgfehaaa

namespace Go.Proofs.Ytgkakgibgfehaaa
open Go.RowKit

attribute [local go_sem] Oper.semAt_some

/-- A function value that tells what an index is worth. -/
def WayFn (n : Nat) (P : Nat → Int) (w : World) (u : Value) : Prop := ∃ k cap, u = .func (.func k) #[] cap ∧ (∀ (args : Array Value) (w' : World), (callFunc k args).run Tq.prog w' = .ok (.enter k args) w') ∧ ∀ w', Below w.heap.size w w' → ∀ i : Nat, i < n → Calls Tq.prog k (#[] ++ #[.int .i64 (i : Int), .int .i64 (n : Int)] ++ cap) w' fun e w'' => e = .returned (.int .i64 (P i)) ∧ w' = w''
theorem oneI_dep (d i : Nat) : oneI (decide (i < d)) = depP d i := by unfold oneI depP; by_cases h : i < d <;> simp [h]
theorem oneI_las (n i : Nat) : oneI (decide (i = n - 1)) = lasP n i := by unfold oneI lasP; by_cases h : i = n - 1 <;> simp [h]
theorem wayFn_depth {n d g : Nat} {w : World} (hc : w.cell? ⟨g, 0, none⟩ = some (.int .i64 (d : Int))) (hg : g < w.heap.size) : WayFn n (depP d) w (wayD g) :=
  ⟨_, _, rfl, Go.Proofs.enters_of Tq.func130 (by kernel_rfl) rfl, fun w' hb i hi => (wayDepth_any g d i n w' ((hb.cell (p := ⟨g, 0, none⟩) hg).trans hc)).mono (by rintro e w2 ⟨rfl, rfl⟩; exact ⟨by rw [oneI_dep], rfl⟩)⟩
theorem wayFn_place {n : Nat} {w : World} (hn : n ≤ 5) : WayFn n (plaP n) w (.func (.func 127) #[] #[]) :=
  ⟨_, _, rfl, Go.Proofs.enters_of Tq.func127 (by kernel_rfl) rfl, fun w' _ i hi => wayPlace_any i n w' hi hn⟩
theorem wayFn_last {n : Nat} {w : World} (hn : n ≤ 5) : WayFn n (lasP n) w (.func (.func 128) #[] #[]) :=
  ⟨_, _, rfl, Go.Proofs.enters_of Tq.func128 (by kernel_rfl) rfl, fun w' _ i hi => (wayLast_any i n w' hi hn).mono (by rintro e w2 ⟨rfl, rfl⟩; exact ⟨by rw [oneI_las], rfl⟩)⟩
/-- The table's way of a number. -/
theorem way_at {n number : Nat} {G : Nat → Nat} {w : World} (hn : n ≤ 5) (hk : number ≤ 7) (hG : ∀ j, j < 6 → w.cell? ⟨G j, 0, none⟩ = some (.int .i64 (j : Int)) ∧ G j < w.heap.size) :
    ∃ u, #[wayD (G 0), wayD (G 1), wayD (G 2), wayD (G 3), wayD (G 4), wayD (G 5), .func (.func 127) #[] #[], .func (.func 128) #[] #[]][number]? = some u ∧ WayFn n (wayP n number) w u := by
  have hd : ∀ j, j < 6 → WayFn n (wayP n j) w (wayD (G j)) := fun j hj => by
    have := wayFn_depth (n := n) (hG j hj).1 (hG j hj).2
    have e : wayP n j = depP j := by funext i; unfold wayP; rw [if_pos hj]
    rw [e]; exact this
  have : number = 0 ∨ number = 1 ∨ number = 2 ∨ number = 3 ∨ number = 4 ∨ number = 5 ∨ number = 6 ∨ number = 7 := by omega
  rcases this with rfl | rfl | rfl | rfl | rfl | rfl | rfl | rfl
  · exact ⟨_, rfl, hd 0 (by omega)⟩
  · exact ⟨_, rfl, hd 1 (by omega)⟩
  · exact ⟨_, rfl, hd 2 (by omega)⟩
  · exact ⟨_, rfl, hd 3 (by omega)⟩
  · exact ⟨_, rfl, hd 4 (by omega)⟩
  · exact ⟨_, rfl, hd 5 (by omega)⟩
  · exact ⟨_, rfl, wayFn_place hn⟩
  · exact ⟨_, rfl, wayFn_last hn⟩

theorem index_way {arr : Array Value} {number : Nat} {u : Value} (hk : number ≤ 7) (hu : arr[number]? = some u) (w : World) : (Instr.index 116 (.agg arr) (.int .i64 (number : Int))).run Tq.prog w = .ok u w := by
  have h1 : (0 : Int) ≤ (number : Int) ∧ (number : Int) < 8 := by omega
  simp [Instr.index, go_sem, h1, hu]
  intro h; omega

set_option maxRecDepth 100000 in
set_option maxHeartbeats 4000000 in
/-- **pointCounts**. -/
theorem points_as (a : Option Addr) (len cap : Nat) (ps : List Pl) (n : Int) (number : Nat) (v : Bool) (w : World) (h : IsPiles w a len cap ps) (hs : Small ps) (hv : fitsB ps n = v) (hk : number ≤ 7) :
    Calls Tq.prog 62 #[.slice a len cap, .int .i64 n, .int .i64 (number : Int)] w (Told w (ptR number ps n) v) := by
  obtain ⟨i0, hi, hz0, hz1, hz2⟩ := info_parts int_info
  have HI := Lib.hid h
  have HS := Lib.hid hs
  have H1 := Lib.hid h.1
  clear h hs
  cases v
  · have HV := Lib.hid hv; clear hv
    have HR := Lib.hid (ptR_no (number := number) HV.out)
    go_enter Tq.func62, Tq.ntmps62
    go_wp2_with fail
    refine (implFits_as _ len cap ps n false _ HI.out HS.out HV.out).mono ?_
    rintro e1 w1 ⟨rfl, hb1⟩
    go_wp2
    go_ret2
    rw [Told, HR.out]
    exact ⟨none, 0, rfl, World.ownsRow_nil _ _ _ _, hb1⟩
  · obtain ⟨hp, hn1, hn5, -⟩ := fits_parts hv
    obtain ⟨N, rfl⟩ : ∃ N : Nat, n = (N : Int) := ⟨n.toNat, by omega⟩
    have hl12 : len ≤ 12 := by have := (pilesB_pos hp).2.2.2.2; rw [H1.out] at this; exact this
    have HR := Lib.hid (ptR_yes (number := number) hv)
    have HV := Lib.hid hv
    have HP := Lib.hid hp
    clear hv hp
    have hN1 : 1 ≤ N := by omega
    have hN5 : N ≤ 5 := by omega
    go_enter Tq.func62, Tq.ntmps62
    go_wp2_with fail
    refine (implFits_as _ len cap ps (N : Int) true _ HI.out HS.out HV.out).mono ?_
    rintro e1 w1 ⟨rfl, hb1⟩
    have B1 := Lib.hid hb1
    clear hb1
    go_wp2_with fail
    refine (ways_any _).mono ?_
    rintro e2 w2 ⟨G, rfl, hG, hb2⟩
    obtain ⟨u, hu, hw⟩ := way_at (n := N) hN5 hk (fun j hj => ⟨(hG j hj).1, (hG j hj).2.2⟩)
    have B2 := Lib.hid (B1.out.trans (hb2.mono B1.out.size))
    have HW := Lib.hid hw
    clear hG hb2 hw B1
    generalize #[wayD (G 0), wayD (G 1), wayD (G 2), wayD (G 3), wayD (G 4), wayD (G 5), Value.func (.func 127) #[] #[], Value.func (.func 128) #[] #[]] = arr at hu ⊢
    have hix := index_way hk hu w2
    obtain ⟨kf, cf, rfl, hent, hcl⟩ := HW.out
    have HC := Lib.hid hcl
    clear hcl HW hu
    go_wp2_with (at_make; refine wpList_make_full _ rfl _ _ 27 rfl w2.heap.size 3 i0 (.int .i64 0) 1 Tq.underlying27 hi hz0 hz1 .i64 .i64 _ _ N rfl rfl rfl rfl (by rw [hz2]; omega) (by unfold maxLen; omega) (Nat.le_refl _) ?_; intro w3 hown hgrow)
    obtain ⟨g, hg⟩ : ∃ g, w2.heap.size = g := ⟨_, rfl⟩
    have hgw : w.heap.size ≤ g := by rw [← hg]; exact B2.out.size
    have hb3 : Below g w2 w3 := hg ▸ (Below.refl _ w2).grown hgrow (Nat.le_refl _) (fun k e => by cases e)
    rw [hg] at hown ⊢
    have O3 : Hid (w3.ownsRow g 3 1 (.slice (some ⟨g, 0, none⟩) N N) N ((ptL (wayP N number) (ps.take 0) N).map (Value.int .i64))) := by
      unfold Hid; rw [List.take_zero, ptL_nil, ← zeros_made]
      exact hown
    have HG := Lib.hid hg
    clear hown hgrow hg hix hi hz0 hz1 hz2
    go_wp2
    go_loopw [11, 12, 13, 14, 15, 27, 39] (fun _ _ _ _ _ iv _ wr => ∃ i : Nat, i ≤ len ∧ iv = .int .i64 (i : Int) ∧ Hid (wr.ownsRow g 3 1 (.slice (some ⟨g, 0, none⟩) N N) N ((ptL (wayP N number) (ps.take i) N).map (Value.int .i64))) ∧ Below g w2 wr) (fun _ _ _ _ _ iv _ _ => len - (intOf iv).toNat)
    case atStart => exact ⟨0, Nat.zero_le _, rfl, O3, hb3⟩
    case round =>
      clear O3 hb3
      obtain ⟨i, hil, rfl, hO, hB⟩ := hrel
      have hgr : g ≤ wr.heap.size := by have := hB.size; rw [HG.out] at this; exact this
      by_cases hlt : i < len
      · have hBw : Below w.heap.size w wr := B2.out.trans (hB.mono hgw)
        obtain ⟨b, off, rfl, hb, c0, c1⟩ := (HI.out.below hBw).at_text hlt
        obtain ⟨t, ht⟩ : ∃ t, tAt ps i = t := ⟨_, rfl⟩
        obtain ⟨m, hm⟩ : ∃ m, mAt ps i = m := ⟨_, rfl⟩
        obtain ⟨pl, hpl⟩ : ∃ pl, parseL t = pl := ⟨_, rfl⟩
        have hst : t.size ≤ 1048600 := by rw [← ht]; exact HS.out i
        have hm99 : 0 ≤ m ∧ m ≤ 99 := by rw [← hm]; exact mAt_valid HP.out i
        have hips : i < ps.length := by rw [H1.out]; exact hlt
        have hvN : validB pl (N : Int) = true := by rw [← hpl, ← ht]; exact (fits_parts HV.out).2.2.2 i hips
        have hlN : pl.length ≤ N := by have := vB_short hvN; omega
        have HOK : Hid (validB (nums t) 5 = true) := by
          have := (pilesB_pos HP.out).2.2.2.1 _ (pile_mem (ps := ps) (k := i) hips)
          unfold Hid; rw [← ht]; exact this
        have HNX : Hid (addTo (wayP N number) m pl pl.length (ptL (wayP N number) (ps.take i) N) = ptL (wayP N number) (ps.take (i + 1)) N) := by
          have := ptL_next (P := wayP N number) (n := N) hips (by rw [ht, hpl]; exact hvN)
          rw [ht, hm, hpl] at this; exact this
        have HBD : Hid (∀ x : Nat, 0 ≤ (ptL (wayP N number) (ps.take i) N)[x]?.getD 0 ∧ (ptL (wayP N number) (ps.take i) N)[x]?.getD 0 ≤ 5940) := fun x => ptL_bound (wayP_bound hN5) HV.out i x
        have HZ : Hid (∀ z ∈ pl, 0 ≤ z ∧ z < (N : Int)) := (vB_mem hvN).2.2
        obtain ⟨cs, hcs⟩ : ∃ cs, ptL (wayP N number) (ps.take i) N = cs := ⟨_, rfl⟩
        have hcl : cs.length = N := by rw [← hcs]; exact ptL_length _ _ _
        rw [hcs] at hO HNX HBD
        rw [ht] at c0
        rw [hm] at c1
        have HPL := Lib.hid hpl
        clear ht hpl hm hBw hcs hips hvN
        go_wp2_with fail
        refine (implParse_as t pl true _ hst HPL.out HOK.out).mono ?_
        rintro e w4 ⟨a4, c4, rfl, ho4, hb4⟩
        have hBx : Below wr.heap.size wr w4 := ((Below.refl _ _).alloc (Nat.le_refl _) _).trans (hb4.mono (by simp))
        have cm : w4.cell? ⟨wr.heap.size, 1, none⟩ = some (.int .i64 m) := (hb4.cell (p := ⟨wr.heap.size, 1, none⟩) (by simp)).trans ((World.cell?_alloc_mark wr _ _ (0, 0) 1).trans rfl)
        have hbm : wr.heap.size < w4.heap.size := by have := hb4.size; simp at this; omega
        have I4' : w4.ownsRow (wr.heap.size + 1) 3 1 (.slice a4 pl.length c4) pl.length (pl.map (Value.int .i64)) := by simpa using ho4
        have I4 := Lib.hid I4'
        clear I4'
        have hO4 : Hid (w4.ownsRow g 3 1 (.slice (some ⟨g, 0, none⟩) N N) N ((addTo (wayP N number) m pl 0 cs).map (Value.int .i64))) := owns_under hO.out hBx
        have hgl : g < wr.heap.size := (hO.out.lt g rfl).2
        have B4 : Below g w2 w4 := hB.trans (hBx.mono hgr)
        obtain ⟨gp, hgp⟩ : ∃ gp, wr.heap.size = gp := ⟨_, rfl⟩
        rw [hgp] at cm hbm hgl I4 ⊢
        clear ho4 hb4 hBx hO hB c0 c1 hgp hgr
        go_wp2
        go_loopw [14, 15, 39] (fun _ _ jv wr => ∃ j : Nat, j ≤ pl.length ∧ jv = .int .i64 (j : Int) ∧ Hid (wr.ownsRow g 3 1 (.slice (some ⟨g, 0, none⟩) N N) N ((addTo (wayP N number) m pl j cs).map (Value.int .i64))) ∧ Hid (wr.ownsRow (gp + 1) 3 1 (.slice a4 pl.length c4) pl.length (pl.map (Value.int .i64))) ∧ Hid (wr.cell? ⟨gp, 1, none⟩ = some (.int .i64 m)) ∧ gp < wr.heap.size ∧ Below g w2 wr) (fun _ _ jv _ => pl.length - (intOf jv).toNat)
        case atStart => exact ⟨0, Nat.zero_le _, rfl, hO4, I4, cm, hbm, B4⟩
        case round =>
          clear hO4 I4 cm hbm B4
          rename World => wx
          obtain ⟨j, hjl, rfl, hO, hI, hm1, hbm, hB⟩ := hrel
          by_cases hlj : j < pl.length
          · obtain ⟨b4, o4, rfl, -, hc4⟩ := (IsInts.of_owned hI.out (by omega)).2.2.2 (by omega)
            have hz := hc4 j hlj
            obtain ⟨z, hzz⟩ : ∃ z, pl[j]?.getD 0 = z := ⟨_, rfl⟩
            rw [hzz] at hz
            have hzr : 0 ≤ z ∧ z < (N : Int) := HZ.out z (by rw [← hzz]; simp [hlj])
            obtain ⟨x, rfl⟩ := Int.eq_ofNat_of_zero_le hzr.1
            have hxN : x < N := by omega
            obtain ⟨cv, hcv⟩ : ∃ cv, (addTo (wayP N number) m pl j cs)[x]?.getD 0 = cv := ⟨_, rfl⟩
            have hcvb : 0 ≤ cv ∧ cv ≤ 8415 := by
              have := addTo_bound (zs := pl) hm99 (wayP_bound (number := number) hN5) HBD.out j (by omega) x
              rw [hcv] at this; omega
            obtain ⟨q, hq⟩ : ∃ q, wayP N number j = q := ⟨_, rfl⟩
            have hqb : 0 ≤ q ∧ q ≤ 5 := by rw [← hq]; exact wayP_bound hN5 j (by omega)
            have hmq : 0 ≤ m * q ∧ m * q ≤ 495 := ⟨Int.mul_nonneg hm99.1 hqb.1, Int.le_trans (Int.mul_le_mul hm99.2 hqb.2 hqb.1 (by omega)) (by omega)⟩
            have hcell : wx.drew.cell? ⟨g, x, none⟩ = some (.int .i64 cv) := by
              have h1 : wx.drew.cell? ⟨g, x, none⟩ = wx.cell? ⟨g, x, none⟩ := rfl
              rw [h1, hO.out.cellAt x (by omega), ← hcv]
              have : x < (addTo (wayP N number) m pl j cs).length := by rw [addTo_length]; omega
              simp [this]
            have hfz : wx.drew.frozen? ⟨g, x, none⟩ = false := hO.out.frozenAt x
            have O7 : Hid ((wx.drew.setCell ⟨g, x, none⟩ (.int .i64 (cv + m * q))).ownsRow g 3 1 (.slice (some ⟨g, 0, none⟩) N N) N ((addTo (wayP N number) m pl (j + 1) cs).map (Value.int .i64))) := by
              have h1 := (hO.out.stored x (.int .i64 (cv + m * q))).1
              unfold Hid
              rw [addTo_succ, hzz, Int.toNat_natCast, hcv, hq, ← map_set_int]
              exact h1
            have I7 : Hid ((wx.drew.setCell ⟨g, x, none⟩ (.int .i64 (cv + m * q))).ownsRow (gp + 1) 3 1 (.slice (some ⟨b4, o4, none⟩) pl.length c4) pl.length (pl.map (Value.int .i64))) := by
              refine World.ownsRow.kept hI.out (row := some g) (w' := wx.drew.setCell ⟨g, x, none⟩ (.int .i64 (cv + m * q))) ⟨rfl, rfl, rfl, by simp [World.setCell], fun k hk hne => Below.heap_setCell _ _ _ _ (by show k ≠ g; intro e; exact hne (by rw [e]))⟩ ?_
              cases hbl : (Value.slice (some ⟨b4, o4, none⟩) pl.length c4).ownBlock with
              | none => exact .inl rfl
              | some jj => right; intro e; injection e with e; have := (hI.out.lt jj hbl).1; omega
            have M7 : Hid ((wx.drew.setCell ⟨g, x, none⟩ (.int .i64 (cv + m * q))).cell? ⟨gp, 1, none⟩ = some (.int .i64 m)) := by
              unfold Hid
              rw [World.cell?_setCell_other _ _ _ _ (by intro e; injection e with e _; omega)]
              exact hm1.out
            have B7 : Below g w2 (wx.drew.setCell ⟨g, x, none⟩ (.int .i64 (cv + m * q))) := (hB.drew).setCell (p := ⟨g, x, none⟩) (Nat.le_refl _) _
            have G7 : gp < (wx.drew.setCell ⟨g, x, none⟩ (.int .i64 (cv + m * q))).heap.size := by simp [World.setCell]; exact hbm
            have hcc := HC.out wx.drew (by rw [HG.out]; exact hB.drew) j (by omega)
            rw [hq] at hcc
            have HCC := Lib.hid (hcc.mono (R' := fun e w' => e = .returned (.int .i64 q) ∧ w' = wx.drew) (by rintro e w5 ⟨rfl, rfl⟩; exact ⟨rfl, rfl⟩))
            have hm2 := hm1.out
            have hxi : (x : Int) < (N : Int) := by omega
            have hji : (j : Int) < (pl.length : Int) := by omega
            clear hc4 hcv hq hzz hcc hO hI hm1
            go_wp2_with fail
            refine region_quiet_tail 12 (by kernel_rfl) (by kernel_rfl) ?_
            simp only [List.take_succ_cons, List.take_zero, List.drop_succ_cons, List.drop_zero]
            repeat (first | go_big_quiet_step (fail) | (go_big_quiet_want; go_big_quiet_op; refine ⟨_, HCC.out, ?_⟩; go_big_quiet_on))
            refine wpQuiet_nil ?_
            generalize wx.drew = w6 at O7 I7 M7 B7 G7 hcell hfz ⊢
            go_wp2
            go_roundw
            case rel => exact ⟨j + 1, by omega, by go_num, O7, I7, M7, G7, B7⟩
            case measure => simp [intOf]; omega
          · obtain rfl : j = pl.length := by omega
            have hO9 := hO.out
            rw [HNX.out] at hO9
            have hO8 := Lib.hid hO9
            clear hO9
            go_wp2
            go_roundw
            case rel => exact ⟨i + 1, by omega, by go_num, hO8, hB⟩
            case measure => simp [intOf]; omega
      · obtain rfl : i = len := by omega
        have hO9 : Hid (wr.ownsRow g 3 1 (.slice (some ⟨g, 0, none⟩) N N) N ((ptL (wayP N number) ps N).map (Value.int .i64))) := by
          have := hO.out; rw [List.take_of_length_le (by rw [H1.out]; exact Nat.le_refl _)] at this; exact this
        have hlen : (ptL (wayP N number) ps N).length = N := ptL_length _ _ _
        go_wp2
        go_ret2
        rw [Told, HR.out, hlen]
        exact ⟨some ⟨g, 0, none⟩, N, rfl, hO9.out.mono hgw, B2.out.trans (hB.mono hgw)⟩

set_option maxRecDepth 100000 in
set_option maxHeartbeats 2000000 in
/-- **impl.DepthCounts**. -/
theorem implDepth_as (a : Option Addr) (len cap : Nat) (ps : List Pl) (n d : Int) (v : Bool) (l : List Int) (w : World) (h : IsPiles w a len cap ps) (hs : Small ps) (hv : depOk ps n d = v) (hl : depR ps n d = l) :
    Calls Tq.prog 28 #[.slice a len cap, .int .i64 n, .int .i64 d] w (Told w l v) := by
  have HI := Lib.hid h
  have HS := Lib.hid hs
  clear h hs
  by_cases h0 : d < 0
  · have hd : decide (d < 0) = true := decide_eq_true h0
    have e1 := depOk_out (ps := ps) (n := n) (.inl h0)
    rw [e1] at hv
    rw [depR_no e1] at hl
    subst hv hl
    clear e1
    go_enter Tq.func28, Tq.ntmps28
    go_wp2
    go_ret2
    exact ⟨none, 0, rfl, World.ownsRow_nil _ _ _ _, Below.refl _ _⟩
  · have hd : decide (d < 0) = false := decide_eq_false h0
    by_cases h5 : 5 < d
    · have hd5 : decide (5 < d) = true := decide_eq_true h5
      have e1 := depOk_out (ps := ps) (n := n) (.inr h5)
      rw [e1] at hv
      rw [depR_no e1] at hl
      subst hv hl
      clear e1
      go_enter Tq.func28, Tq.ntmps28
      go_wp2
      go_ret2
      exact ⟨none, 0, rfl, World.ownsRow_nil _ _ _ _, Below.refl _ _⟩
    · have hd5 : decide (5 < d) = false := decide_eq_false h5
      obtain ⟨k, rfl⟩ := Int.eq_ofNat_of_zero_le (by omega : 0 ≤ d)
      have hk5 : k ≤ 5 := by omega
      rw [depOk_in (by omega) (by omega)] at hv
      rw [depR_in hk5] at hl
      have HV := Lib.hid hv
      have HL := Lib.hid hl
      clear hv hl
      go_enter Tq.func28, Tq.ntmps28
      go_wp2_with fail
      refine (points_as _ _ _ ps n k v _ HI.out HS.out HV.out (by omega)).mono ?_
      rw [HL.out]
      rintro e1 w1 ⟨a1, c1, rfl, ho, hb⟩
      go_wp2
      go_ret2
      exact ⟨a1, c1, rfl, ho, hb⟩
end Go.Proofs.Ytgkakgibgfehaaa

namespace Go.Proofs.Ytgkakgibgfehaaa
open Go.RowKit

attribute [local go_sem] Oper.semAt_some

def conB (ps : List Pl) (lots : List Int) : Bool := lotsB lots && fitsB ps (lots.length : Int)
/-- What DepthWinner and PlaceWinner tell. -/
def depWin (ps : List Pl) (lots : List Int) : Int × Int := if conB ps lots = true then (depW ps lots, (depAt ps lots.length : Int)) else (-1, -1)
theorem depAt_eq {ps : List Pl} {n d : Nat} (h1 : 1 ≤ d) (h2 : d ≤ n) (h3 : ∀ j, 1 ≤ j → j < d → overL (depL ps n j) (sumL ps) = false) (h4 : d < n → overL (depL ps n d) (sumL ps) = true) : depAt ps n = d := by
  obtain ⟨k1, k2, k3, k4⟩ := depFrom_spec (ps := ps) (n := n) n 1 (by omega) (by omega)
  have e : depAt ps n = depFrom ps n n 1 := rfl
  rw [← e] at k1 k2 k3 k4
  rcases Nat.lt_trichotomy (depAt ps n) d with g | g | g
  · have := k3 (by omega); rw [h3 _ k1 g] at this; cases this
  · exact g
  · have := k4 d h1 g; rw [h4 (by omega)] at this; cases this
theorem depL_bound {ps : List Pl} {N : Nat} (hv : fitsB ps (N : Int) = true) (d x : Nat) : 0 ≤ (depL ps N d)[x]?.getD 0 ∧ (depL ps N d)[x]?.getD 0 ≤ 10000 := by
  rw [dep_pts]
  have := ptL_bound (P := depP d) (depP_bound d N) hv ps.length x
  rw [List.take_length] at this
  omega
set_option maxRecDepth 100000 in
set_option maxHeartbeats 4000000 in
/-- **spec.DepthWinner**. -/
theorem specDepthW_as (a : Option Addr) (len cap : Nat) (ps : List Pl) (a' : Option Addr) (n cap' : Nat) (lots : List Int) (r d : Int) (w : World) (h : IsPiles w a len cap ps) (hs : Small ps) (h' : IsInts w a' n cap' lots) (hr : depWin ps lots = (r, d)) :
    Calls Tq.prog 32 #[.slice a len cap, .slice a' n cap'] w fun e w' => e = .returned (.tuple #[.int .i64 r, .int .i64 d]) ∧ Below w.heap.size w w' := by
  have HI := Lib.hid h
  have HS := Lib.hid hs
  have HJ := Lib.hid h'
  have HLn := Lib.hid h'.1
  clear h hs h'
  cases hl : lotsB lots
  · have e : conB ps lots = false := by rw [conB, hl]; rfl
    rw [depWin, e] at hr
    obtain ⟨rfl, rfl⟩ := Prod.ext_iff.1 hr
    have HL := Lib.hid hl
    clear hr e hl
    go_enter Tq.func32, Tq.ntmps32
    go_wp2_with fail
    refine (specLots_any _ _ _ lots _ HJ.out).mono ?_
    rw [HL.out]
    rintro e w1 ⟨rfl, hd⟩
    have hb := hd.below w.heap.size
    go_wp2
    go_ret2
    exact ⟨rfl, hb⟩
  · have HL := Lib.hid hl
    cases hf : fitsB ps (lots.length : Int)
    · have e : conB ps lots = false := by rw [conB, hf, Bool.and_false]
      rw [depWin, e] at hr
      obtain ⟨rfl, rfl⟩ := Prod.ext_iff.1 hr
      rw [HLn.out] at hf
      have HF := Lib.hid hf
      clear hr e hl hf
      go_enter Tq.func32, Tq.ntmps32
      go_wp2_with fail
      refine (specLots_any _ _ _ lots _ HJ.out).mono ?_
      rw [HL.out]
      rintro e w1 ⟨rfl, hd⟩
      have hb := hd.below w.heap.size
      clear hd
      go_wp2_with fail
      refine (specFits_as _ _ _ ps (n : Int) false _ (HI.out.below hb) HS.out HF.out).mono ?_
      rintro e w2 ⟨rfl, hb2⟩
      have hb3 := hb.trans (hb2.mono hb.size)
      clear hb hb2
      go_wp2
      go_ret2
      exact ⟨rfl, hb3⟩
    · have e : conB ps lots = true := by rw [conB, hl, hf]; rfl
      rw [depWin, e, if_pos rfl, HLn.out] at hr
      have HR := Lib.hid hr
      rw [HLn.out] at hf
      have HF := Lib.hid hf
      have hn := lotsB_len hl
      rw [HLn.out] at hn
      have HP := Lib.hid (fits_parts hf).1
      have HZ : Hid (∀ z ∈ lots, 0 ≤ z ∧ z < (n : Int)) := by intro z hz; have := lotsB_mem hl z hz; rw [HLn.out] at this; exact this
      clear hr e hl hf
      go_enter Tq.func32, Tq.ntmps32
      go_wp2_with fail
      refine (specLots_any _ _ _ lots _ HJ.out).mono ?_
      rw [HL.out]
      rintro e w1 ⟨rfl, hd⟩
      have hb := hd.below w.heap.size
      clear hd
      go_wp2_with fail
      refine (specFits_as _ _ _ ps (n : Int) true _ (HI.out.below hb) HS.out HF.out).mono ?_
      rintro e w2 ⟨rfl, hb2⟩
      have hb3 := Lib.hid (hb.trans (hb2.mono hb.size))
      clear hb hb2
      go_wp2
      go_loopw [7] (fun dv wr => ∃ k : Nat, 1 ≤ k ∧ k ≤ n ∧ dv = .int .i64 (k : Int) ∧ Hid (∀ j, 1 ≤ j → j < k → overL (depL ps n j) (sumL ps) = false) ∧ Below w.heap.size w wr) (fun dv _ => n - (intOf dv).toNat)
      case atStart => exact ⟨1, Nat.le_refl _, hn.1, rfl, fun j h1 h2 => by omega, hb3.out⟩
      case round =>
        clear hb3
        obtain ⟨k, hk1, hkn, rfl, hA, hB⟩ := hrel
        have FIN : Hid ((k < n → overL (depL ps n k) (sumL ps) = true) → Hid (pickL lots (mostL (depL ps n k) (allL n)) = r ∧ (k : Int) = d)) := fun h4 => by
          have h5 := depAt_eq hk1 hkn hA.out h4
          have h6 := HR.out
          rw [Prod.ext_iff, h5, depW, HLn.out, h5] at h6
          exact h6
        by_cases hlt : k < n
        · have hlti : (k : Int) < (n : Int) := by omega
          obtain ⟨v, hv⟩ : ∃ v, overL (depL ps n k) (sumL ps) = v := ⟨_, rfl⟩
          have HV := Lib.hid hv
          clear hv
          go_wp2_with fail
          refine (specDepth0_as _ _ _ ps n k _ (HI.out.below hB) HS.out HF.out).mono ?_
          rintro e w3 ⟨g3, rfl, ho3, hb3⟩
          rw [← dep_pts] at ho3
          have hB3 := hB.trans (hb3.mono hB.size)
          have I3 := Lib.hid (IsInts.of_owned ho3 (by omega))
          clear ho3 hb3 hB
          go_wp2_with fail
          refine (l3Total_any _ _ _ ps _ (HI.out.below hB3) (fun i => by have := mAt_valid HP.out i; omega)).mono ?_
          rintro e w4 ⟨rfl, rfl⟩
          go_wp2_with fail
          refine (over14_as _ _ _ (depL ps n k) (sumL ps) v _ I3.out (fun x => depL_bound HF.out k x) HV.out).mono ?_
          rintro e w5 ⟨rfl, rfl⟩
          cases v
          · have HA2 : Hid (∀ j, 1 ≤ j → j < k + 1 → overL (depL ps n j) (sumL ps) = false) := fun j h1 h2 => by
              by_cases e : j = k
              · subst e; exact HV.out
              · exact hA.out j h1 (by omega)
            clear I3 hA
            go_wp2
            go_roundw
            case rel => exact ⟨k + 1, by omega, by omega, by go_num, HA2, hB3⟩
            case measure => simp [intOf]; omega
          · have HD := FIN.out (fun _ => HV.out)
            have hBx := hB3
            clear I3 hA FIN hB3
            go_wp2_with fail
            refine (specDepth0_as _ _ _ ps n k _ (HI.out.below hBx) HS.out HF.out).mono ?_
            rintro e w6 ⟨g6, rfl, ho6, hb6⟩
            rw [← dep_pts] at ho6
            have hB6 := hBx.trans (hb6.mono hBx.size)
            have I6 := Lib.hid (IsInts.of_owned ho6 (by omega))
            clear ho6 hb6 hBx
            go_wp2_with fail
            refine (all11_as n _ (by omega)).mono ?_
            rintro e w7 ⟨a7, c7, rfl, ho7, hb7⟩
            have hB7 := hB6.trans (hb7.mono hB6.size)
            have I7 := Lib.hid (I6.out.below hb7)
            have J7 := Lib.hid (boolsRow_is ho7 (by simp [allL]) (by omega))
            clear ho7 hb7 hB6 I6
            go_wp2_with fail
            refine (most11_as _ _ _ (depL ps n k) _ _ (allL n) _ I7.out J7.out _ rfl).mono ?_
            rintro e w8 ⟨a8, c8, rfl, ho8, hb8⟩
            have hB8 := hB7.trans (hb8.mono hB7.size)
            have J8 := Lib.hid (boolsRow_is ho8 (by rw [mostL_length, depL_length]) (by omega))
            clear ho8 hb8 hB7 I7 J7
            go_wp2_with fail
            refine (l4First_any _ _ _ lots _ _ _ (mostL (depL ps n k) (allL n)) _ (HJ.out.below hB8) J8.out HZ.out).mono ?_
            rintro e w9 ⟨rfl, rfl⟩
            go_wp2
            go_ret2
            exact ⟨by rw [HD.out.1, HD.out.2]; rfl, hB8⟩
        · have HD := FIN.out (fun g => absurd g hlt)
          have hBx := hB
          have hlti : ¬ (k : Int) < (n : Int) := by omega
          clear hA FIN hB
          go_wp2_with fail
          refine (specDepth0_as _ _ _ ps n k _ (HI.out.below hBx) HS.out HF.out).mono ?_
          rintro e w6 ⟨g6, rfl, ho6, hb6⟩
          rw [← dep_pts] at ho6
          have hB6 := hBx.trans (hb6.mono hBx.size)
          have I6 := Lib.hid (IsInts.of_owned ho6 (by omega))
          clear ho6 hb6 hBx
          go_wp2_with fail
          refine (all11_as n _ (by omega)).mono ?_
          rintro e w7 ⟨a7, c7, rfl, ho7, hb7⟩
          have hB7 := hB6.trans (hb7.mono hB6.size)
          have I7 := Lib.hid (I6.out.below hb7)
          have J7 := Lib.hid (boolsRow_is ho7 (by simp [allL]) (by omega))
          clear ho7 hb7 hB6 I6
          go_wp2_with fail
          refine (most11_as _ _ _ (depL ps n k) _ _ (allL n) _ I7.out J7.out _ rfl).mono ?_
          rintro e w8 ⟨a8, c8, rfl, ho8, hb8⟩
          have hB8 := hB7.trans (hb8.mono hB7.size)
          have J8 := Lib.hid (boolsRow_is ho8 (by rw [mostL_length, depL_length]) (by omega))
          clear ho8 hb8 hB7 I7 J7
          go_wp2_with fail
          refine (l4First_any _ _ _ lots _ _ _ (mostL (depL ps n k) (allL n)) _ (HJ.out.below hB8) J8.out HZ.out).mono ?_
          rintro e w9 ⟨rfl, rfl⟩
          go_wp2
          go_ret2
          exact ⟨by rw [HD.out.1, HD.out.2]; rfl, hB8⟩

set_option maxRecDepth 100000 in
set_option maxHeartbeats 4000000 in
/-- **impl.DepthWinner**. -/
theorem implDepthW_as (a : Option Addr) (len cap : Nat) (ps : List Pl) (a' : Option Addr) (n cap' : Nat) (lots : List Int) (r d : Int) (w : World) (h : IsPiles w a len cap ps) (hs : Small ps) (h' : IsInts w a' n cap' lots) (hr : depWin ps lots = (r, d)) :
    Calls Tq.prog 31 #[.slice a len cap, .slice a' n cap'] w fun e w' => e = .returned (.tuple #[.int .i64 r, .int .i64 d]) ∧ Below w.heap.size w w' := by
  have HI := Lib.hid h
  have HS := Lib.hid hs
  have HJ := Lib.hid h'
  have HLn := Lib.hid h'.1
  clear h hs h'
  cases hl : lotsB lots
  · have e : conB ps lots = false := by rw [conB, hl]; rfl
    rw [depWin, e] at hr
    obtain ⟨rfl, rfl⟩ := Prod.ext_iff.1 hr
    have HL := Lib.hid hl
    clear hr e hl
    go_enter Tq.func31, Tq.ntmps31
    go_wp2_with fail
    refine (implLots_any _ _ _ lots _ HJ.out).mono ?_
    rw [HL.out]
    rintro e w1 ⟨rfl, hb⟩
    go_wp2
    go_ret2
    exact ⟨rfl, hb⟩
  · have HL := Lib.hid hl
    have hn := lotsB_len hl
    rw [HLn.out] at hn
    obtain ⟨T, hT⟩ : ∃ T, totalL ps = T := ⟨_, rfl⟩
    have HT := Lib.hid hT
    clear hT
    cases hf : fitsB ps (lots.length : Int)
    · have e : conB ps lots = false := by rw [conB, hf, Bool.and_false]
      rw [depWin, e] at hr
      obtain ⟨rfl, rfl⟩ := Prod.ext_iff.1 hr
      rw [HLn.out] at hf
      have HF : Hid (depOk ps (n : Int) 1 = false) := by rw [Hid, depOk, hf]; rfl
      have HRR := Lib.hid (depR_no HF.out)
      clear hr e hl hf
      go_enter Tq.func31, Tq.ntmps31
      go_wp2_with fail
      refine (implLots_any _ _ _ lots _ HJ.out).mono ?_
      rw [HL.out]
      rintro e w1 ⟨rfl, hb⟩
      go_wp2_with fail
      refine (implTotal_as _ _ _ ps T _ (HI.out.below hb) HS.out HT.out).mono ?_
      rintro e w2 ⟨rfl, hb2⟩
      have hb3 := Lib.hid (hb.trans (hb2.mono hb.size))
      clear hb hb2
      go_wp2
      go_loopw [8, 9, 10] (fun dv _ _ wr => dv = .int .i64 1 ∧ Below w.heap.size w wr) (fun dv _ _ _ => 0)
      case atStart => exact ⟨rfl, hb3.out⟩
      case round =>
        clear hb3
        obtain ⟨rfl, hB⟩ := hrel
        go_wp2_with fail
        refine (implDepth_as _ _ _ ps (n : Int) 1 false [] _ (HI.out.below hB) HS.out HF.out HRR.out).mono ?_
        rintro e w4 ⟨a4, c4, rfl, -, hb4⟩
        have hb5 := hB.trans (hb4.mono hB.size)
        clear hb4 hB
        go_wp2
        go_ret2
        exact ⟨rfl, hb5⟩
    · have e : conB ps lots = true := by rw [conB, hl, hf]; rfl
      rw [depWin, e, if_pos rfl, HLn.out] at hr
      have HR := Lib.hid hr
      rw [HLn.out] at hf
      have HF := Lib.hid hf
      have hT2 : totalL ps = sumL ps := by rw [totalL, if_pos (fits_parts hf).1]
      rw [HT.out] at hT2
      subst hT2
      clear hr e hl hf
      go_enter Tq.func31, Tq.ntmps31
      go_wp2_with fail
      refine (implLots_any _ _ _ lots _ HJ.out).mono ?_
      rw [HL.out]
      rintro e w1 ⟨rfl, hb⟩
      go_wp2_with fail
      refine (implTotal_as _ _ _ ps (sumL ps) _ (HI.out.below hb) HS.out HT.out).mono ?_
      rintro e w2 ⟨rfl, hb2⟩
      have hb3 := Lib.hid (hb.trans (hb2.mono hb.size))
      clear hb hb2
      go_wp2
      go_loopw [8, 9, 10] (fun dv _ _ wr => ∃ k : Nat, 1 ≤ k ∧ k ≤ n ∧ dv = .int .i64 (k : Int) ∧ Hid (∀ j, 1 ≤ j → j < k → overL (depL ps n j) (sumL ps) = false) ∧ Below w.heap.size w wr) (fun dv _ _ _ => n - (intOf dv).toNat)
      case atStart => exact ⟨1, Nat.le_refl _, hn.1, rfl, fun j h1 h2 => by omega, hb3.out⟩
      case round =>
        clear hb3
        obtain ⟨k, hk1, hkn, rfl, hA, hB⟩ := hrel
        have FIN : Hid ((k < n → overL (depL ps n k) (sumL ps) = true) → Hid (pickL lots (mostL (depL ps n k) (allL n)) = r ∧ (k : Int) = d)) := fun h4 => by
          have h5 := depAt_eq hk1 hkn hA.out h4
          have h6 := HR.out
          rw [Prod.ext_iff, h5, depW, HLn.out, h5] at h6
          exact h6
        have HOK : Hid (depOk ps (n : Int) (k : Int) = true) := by rw [Hid, depOk_in (by omega) (by omega)]; exact HF.out
        have HRR : Hid (depR ps (n : Int) (k : Int) = depL ps n k) := by rw [Hid, depR, if_pos HOK.out, Int.toNat_natCast, Int.toNat_natCast]
        go_wp2_with fail
        refine (implDepth_as _ _ _ ps (n : Int) (k : Int) true _ _ (HI.out.below hB) HS.out HOK.out HRR.out).mono ?_
        simp only [Told, depL_length]
        rintro e w4 ⟨a4, c4, rfl, ho4, hb4⟩
        have hB4 := hB.trans (hb4.mono hB.size)
        have I4 := Lib.hid (IsInts.of_owned ho4 (by omega))
        clear hb4 hB ho4
        by_cases hkn2 : k = n
        · subst hkn2
          have HD := FIN.out (fun g => absurd g (Nat.lt_irrefl _))
          have hee : ((k : Int) == (k : Int)) = true := by simp
          clear FIN hA
          go_wp2_with fail
          refine (great_as _ k _ (depL ps k k) _ _ lots _ I4.out (HJ.out.below hB4) HL.out (fun i _ => (depL_bound HF.out k i).1) r HD.out.1).mono ?_
          rintro e w5 ⟨rfl, hb5⟩
          have hb6 := hB4.trans (hb5.mono hB4.size)
          clear hb5 hB4
          go_wp2
          go_ret2
          exact ⟨by rw [HD.out.2]; rfl, hb6⟩
        · have hee : ((k : Int) == (n : Int)) = false := beq_eq_false_iff_ne.2 (by omega)
          obtain ⟨m, hm⟩ : ∃ m, maxTo (depL ps n k) (n - 1) = m := ⟨_, rfl⟩
          have hmb : 0 ≤ m ∧ m ≤ 10000 := by
            obtain ⟨i, _, he⟩ := maxTo_hit (depL ps n k) (n - 1)
            rw [← hm, ← he]; exact depL_bound HF.out k i
          have HOV : Hid (overL (depL ps n k) (sumL ps) = decide (sumL ps < 2 * m)) := by rw [Hid, ← hm]; exact over_great (depL_length _ _ _) (by omega) _
          have HM := Lib.hid hm
          clear hm
          go_wp2_with fail
          refine (slicesMax_as _ _ _ (depL ps n k) _ I4.out (by omega) m HM.out).mono ?_
          rintro e w5 ⟨rfl, rfl⟩
          by_cases hov : sumL ps < 2 * m
          · have HD := FIN.out (fun _ => by rw [HOV.out]; exact decide_eq_true hov)
            have hdd : decide (sumL ps < 2 * m) = true := decide_eq_true hov
            clear FIN hA
            go_wp2_with fail
            refine (great_as _ n _ (depL ps n k) _ _ lots _ I4.out (HJ.out.below hB4) HL.out (fun i _ => (depL_bound HF.out k i).1) r HD.out.1).mono ?_
            rintro e w5 ⟨rfl, hb5⟩
            have hb6 := hB4.trans (hb5.mono hB4.size)
            clear hb5 hB4
            go_wp2
            go_ret2
            exact ⟨by rw [HD.out.2]; rfl, hb6⟩
          · have hdd : decide (sumL ps < 2 * m) = false := decide_eq_false hov
            have HA2 : Hid (∀ j, 1 ≤ j → j < k + 1 → overL (depL ps n j) (sumL ps) = false) := fun j h1 h2 => by
              by_cases e : j = k
              · subst e; rw [HOV.out, hdd]
              · exact hA.out j h1 (by omega)
            clear I4 hA FIN
            go_wp2
            go_roundw
            case rel => exact ⟨k + 1, by omega, by omega, by go_num, HA2, hB4⟩
            case measure => simp [intOf]; omega

end Go.Proofs.Ytgkakgibgfehaaa

namespace Go.Proofs.Ytgkakgibgfehaaa
open Go.RowKit

end Go.Proofs.Ytgkakgibgfehaaa

namespace Go.Proofs.Ytgkakgibgfehaaa
open Go.RowKit

/-- The blocks of two slices are not the same. -/
def Apart (v v' : Value) : Prop := ∀ j, v.ownBlock = some j → v'.ownBlock ≠ some j
theorem kept_apart {w w' : World} {base n size : Nat} {e : TypeId} {v u : Value} {xs : List Value} (h : w.ownsRow base e size v n xs) (hg : w.grownBy w' u.ownBlock) (ha : Apart u v) : w'.ownsRow base e size v n xs := by
  refine h.kept hg ?_
  cases hb : v.ownBlock with
  | none => exact .inl rfl
  | some j => right; intro e2; exact ha j e2.symm hb
theorem lotsRow_low {w : World} {base base' n size : Nat} {e : TypeId} {v : Value} {xs : List Value} (h : w.ownsRow base e size v n xs) (hb : base' ≤ base) : w.ownsRow base' e size v n xs := by
  refine ⟨h.1, ?_⟩
  rcases h.2 with hn | ⟨g, cap, cur, h1, h2, h3⟩
  · exact .inl hn
  · exact .inr ⟨g, cap, cur, h1, Nat.le_trans hb h2, h3⟩
theorem owned_at {w : World} {base n : Nat} {a : Option Addr} {cap : Nat} {xs : List Value} (h : w.ownsRow base 3 1 (.slice a n cap) n xs) (hn : 0 < n) : ∃ g, a = some ⟨g, 0, none⟩ ∧ g < w.heap.size ∧ n ≤ cap ∧ cap ≤ maxLen := by
  rcases h.2 with ⟨_, e0⟩ | ⟨g, c, cur, e, _, hg, h1, h2, _⟩
  · omega
  · injection e with e1 _ e3
    subst e3
    exact ⟨g, e1, (Array.getElem?_eq_some_iff.1 hg).1, h1, h2⟩
theorem erase_parts (rest : List Int) (k : Nat) : rest.take k ++ rest.drop (k + 1) = rest.eraseIdx k := (List.eraseIdx_eq_take_drop_succ rest k).symm

/-- The length of a slice's value. -/
def sliceLen : Value → Nat
  | .slice _ n _ => n
  | _ => 0

/-- What the drawing loop keeps: those that are left, the lots drawn, in two blocks of the call's own. -/
def LotInv (w : World) (k s : Nat) (sv rv lv : Value) (wr : World) : Prop := ∃ (sd : Nat) (rest out : List Int) (a : Option Addr) (cap : Nat) (a2 : Option Addr) (cap2 : Nat), sd ≤ 999 ∧ sv = .int .i64 (sd : Int) ∧ rv = .slice a rest.length cap ∧ lv = .slice a2 out.length cap2 ∧ rest.length ≤ 5 ∧ out.length + rest.length = k ∧
  Hid (out ++ lotR rest sd = lotsOf k s) ∧ Hid (wr.ownsRow w.heap.size 3 1 (.slice a rest.length cap) rest.length (rest.map (Value.int .i64))) ∧ Hid (wr.ownsRow w.heap.size 3 1 (.slice a2 out.length cap2) out.length (out.map (Value.int .i64))) ∧ Hid (Apart (.slice a2 out.length cap2) (.slice a rest.length cap)) ∧ Below w.heap.size w wr

set_option maxRecDepth 100000 in
set_option maxHeartbeats 4000000 in
/-- **spec.LotsOf**, at a number of candidates and a seed in range. -/
theorem specLotsOf_yes (n s : Nat) (w : World) (hn1 : 1 ≤ n) (hn5 : n ≤ 5) (hs : s ≤ 999) :
    Calls Tq.prog 126 #[.int .i64 (n : Int), .int .i64 (s : Int)] w fun e w' => ∃ a cap, e = .returned (.tuple #[.slice a n cap, .bool true]) ∧ w'.ownsRow w.heap.size 3 1 (.slice a n cap) n ((lotsOf n s).map (Value.int .i64)) ∧ Below w.heap.size w w' := by
  obtain ⟨i0, hi, hz0, hz1, hz2⟩ := info_parts int_info
  have H1 := Lib.hid (inB_yes (x := (n : Int)) (lo := 1) (hi := 5) (by omega) (by omega))
  have H2 := Lib.hid (inB_yes (x := (s : Int)) (lo := 0) (hi := 999) (by omega) (by omega))
  have HE0 := Lib.hid (World.ownsRow_lit (base := w.heap.size) (e := 3) (size := 1) w #[] 0 (Nat.le_refl _) (by unfold maxLen; omega) rfl)
  have HB0 : Below w.heap.size w (w.alloc (.cells #[] 3)) := (Below.refl _ w).alloc (Nat.le_refl _) _
  go_enter Tq.func126, Tq.ntmps126
  go_wp2_with fail
  refine (l6In_any _ _ _ _).mono ?_
  rintro e w' ⟨he, rfl⟩
  rw [H1.out] at he
  subst he
  go_wp2_with fail
  refine (l6In_any _ _ _ _).mono ?_
  rintro e w' ⟨he, rfl⟩
  rw [H2.out] at he
  subst he
  go_wp2
  go_loopw [6, 7] (fun rv iv wr => ∃ (k : Nat) (a : Option Addr) (cap : Nat), k ≤ n ∧ iv = .int .i64 (k : Int) ∧ rv = .slice a k cap ∧ Hid (wr.ownsRow w.heap.size 3 1 (.slice a k cap) k ((fromZero k).map (Value.int .i64))) ∧ Below w.heap.size w wr) (fun _ iv _ => n - (intOf iv).toNat)
  case atStart => exact ⟨0, _, _, Nat.zero_le _, rfl, rfl, HE0.out, HB0⟩
  case round =>
    obtain ⟨k, a, cap, hk, rfl, rfl, ho, hB⟩ := hrel
    by_cases hlt : k < n
    · go_wp2_with (at_builtin; refine wpList_append_own _ rfl _ _ 27 rfl w.heap.size 3 i0 (.int .i64 0) 1 8 Tq.underlying27 hi hz0 hz1 hz2 rfl (by decide) _ _ _ rfl (ho.out.alloc _) ⟨wr.heap.size, 0, none⟩ 1 1 [.int .i64 (k : Int)] rfl rfl (cell_one_new _ _ _) (by simp [Value.oneCell']) (by unfold maxLen; omega) (by omega) (by have := hB.size; simp; omega) ?_; intro v' w4 hown' hgrow _; obtain ⟨a4, cap4, rfl⟩ := owns_slice hown')
      have hrow : ∀ j, (Value.slice a k cap).ownBlock = some j → w.heap.size ≤ j := fun j ej => (ho.out.lt j ej).1
      have hB4 := (hB.alloc hB.size (.cells #[.int .i64 (k : Int)] 3)).grown hgrow (by have := hB.size; simp; omega) (fun j e => hrow j e)
      have HO4 : Hid (w4.ownsRow w.heap.size 3 1 (.slice a4 (k + 1) cap4) (k + 1) ((fromZero (k + 1)).map (Value.int .i64))) := by
        unfold Hid; rw [fromZero_succ, List.map_append]; exact hown'
      clear hown' hgrow hrow
      go_wp2
      go_roundw
      case rel => exact ⟨k + 1, a4, cap4, by omega, by go_num, rfl, HO4.out, hB4⟩
      case measure => simp [intOf]; omega
    · obtain rfl : k = n := by omega
      have HR : Hid ((fromZero k).length = k) := fromZero_length k
      have HRE := Lib.hid (ho.out.alloc (.cells #[] 3))
      have hlt0 : Hid (∀ j, (Value.slice a k cap).ownBlock = some j → j < wr.heap.size) := fun j ej => (ho.out.lt j ej).2
      have hsz := hB.size
      have HOE := Lib.hid (World.ownsRow_lit (base := w.heap.size) (e := 3) (size := 1) wr #[] 0 hsz (by unfold maxLen; omega) rfl)
      have hB1 := hB.alloc hsz (.cells #[] 3)
      go_wp2
      go_loopw [1, 6, 8, 9] (fun sv rv lv kv wr => LotInv w k s sv rv lv wr) (fun _ rv _ _ _ => sliceLen rv)
      case atStart =>
        unfold LotInv
        refine ⟨s, fromZero k, [], a, cap, _, _, hs, rfl, by rw [HR.out], rfl, by rw [HR.out]; exact hn5, by rw [HR.out]; simp, ?_, ?_, HOE.out, ?_, hB1⟩
        · unfold Hid; rw [lotR_all]; rfl
        · unfold Hid; rw [HR.out]; exact HRE.out
        · intro j h1 h2
          have e1 : j < wr.heap.size := hlt0.out j (by rw [HR.out] at h2; exact h2)
          have h1 : some wr.heap.size = some j := h1
          injection h1 with h1
          omega
      case round =>
        clear HR HRE HOE hlt0 hB1 hsz ho hB
        obtain ⟨sd, rest, out, a, cap, a2, cap2, hsd, rfl, rfl, rfl, hr5, hsum, hall, ho, ho2, hap, hB⟩ := hrel
        by_cases hlt : 0 < rest.length
        · obtain ⟨g, rfl, hgw, hcap, hmx⟩ := owned_at ho.out hlt
          have hgt : decide (0 < (rest.length : Int)) = true := decide_eq_true (by omega)
          have hkz : ((rest.length : Int) == 0) = false := beq_eq_false_iff_ne.2 (by omega)
          obtain ⟨q, hqe⟩ : ∃ q, sd % rest.length = q := ⟨_, rfl⟩
          obtain ⟨d, hde⟩ : ∃ d, sd / rest.length = d := ⟨_, rfl⟩
          have hqk : q < rest.length := by rw [← hqe]; exact Nat.mod_lt sd hlt
          have hd9 : d ≤ sd := by rw [← hde]; exact Nat.div_le_self sd _
          have hq : ((sd : Int) % (rest.length : Int)) = (q : Int) := by rw [← hqe]; exact (Int.natCast_emod sd rest.length).symm
          have hdv : ((sd : Int) / (rest.length : Int)) = (d : Int) := by rw [← hde]; exact (Int.natCast_ediv sd rest.length).symm
          have HST := Lib.hid (lotR_step (rest := rest) rfl (by omega) sd)
          rw [hqe, hde] at HST
          have HEL := Lib.hid (erase_length (rest := rest) rfl hqk)
          have hcz := ho.out.cellAt q (by omega)
          obtain ⟨z, hz⟩ : ∃ z, rest[q]?.getD 0 = z := ⟨_, rfl⟩
          have HZ := Lib.hid hz
          have hcell : wr.cell? ⟨g, q, none⟩ = some (.int .i64 z) := by
            rw [hcz, ← hz]; simp [hqk]
          clear hcz hz hqe hde
          go_wp2_with (at_builtin; refine wpList_append_own _ rfl _ _ 27 rfl w.heap.size 3 i0 (.int .i64 0) 1 8 Tq.underlying27 hi hz0 hz1 hz2 rfl (by decide) _ _ _ rfl (ho2.out.alloc _) ⟨wr.heap.size, 0, none⟩ 1 1 [.int .i64 z] rfl rfl (cell_one_new _ _ _) (by simp [Value.oneCell']) (by unfold maxLen; omega) (by omega) (by have := hB.size; simp; omega) ?_; intro v' w4 hown' hgrow _; obtain ⟨a4, cap4, rfl⟩ := owns_slice hown')
          have hrow : ∀ j, (Value.slice a2 out.length cap2).ownBlock = some j → w.heap.size ≤ j := fun j ej => (ho2.out.lt j ej).1
          have hB4 := (hB.alloc hB.size (.cells #[.int .i64 z] 3)).grown hgrow (by have := hB.size; simp; omega) (fun j e => hrow j e)
          have O3 : Hid (w4.ownsRow w.heap.size 3 1 (.slice (some ⟨g, 0, none⟩) rest.length cap) rest.length (rest.map (Value.int .i64))) := kept_apart (ho.out.alloc _) hgrow hap.out
          have HO4 : Hid (w4.ownsRow w.heap.size 3 1 (.slice a4 (out.length + 1) cap4) (out.length + 1) ((out ++ [z]).map (Value.int .i64))) := by
            unfold Hid; rw [List.map_append]; exact hown'
          have hg4 : g < w4.heap.size := (O3.out.lt g rfl).2
          have hcs : Hid (∀ j, j < rest.length → w4.cell? ⟨g, 0 + j, none⟩ = some (.int .i64 (rest[j]?.getD 0))) := fun j hj => by
            rw [Nat.zero_add, O3.out.cellAt j (by omega)]; simp [hj]
          have hE : Hid ((w4.alloc (.cells #[] 3)).drew.ownsRow w4.heap.size 3 1 (.slice (some ⟨w4.heap.size, 0, none⟩) 0 0) 0 []) := (World.ownsRow_lit (base := w4.heap.size) (e := 3) (size := 1) w4 #[] 0 (Nat.le_refl _) (by unfold maxLen; omega) rfl).drew
          clear hown' hgrow hrow ho ho2 hap hB hcell
          go_wp2
          have hqc : q ≤ cap := by omega
          have hq1 : q + 1 ≤ rest.length := by omega
          have hk1i : (q : Int) + 1 ≤ (rest.length : Int) := by omega
          have hk0 : (0 : Int) ≤ (q : Int) + 1 := by omega
          have hzci : (rest.length : Int) ≤ (cap : Int) := by omega
          have L1 : Hid (((rest.take q).map (Value.int .i64)).length = q * 1) := by unfold Hid; simp; omega
          have L2 : Hid (((rest.drop (q + 1)).map (Value.int .i64)).length = (rest.length - (q + 1)) * 1) := by unfold Hid; simp
          have P1 : Hid (∀ j u, ((rest.take q).map (Value.int .i64))[j]? = some u → (w4.alloc (.cells #[] 3)).drew.cell? ((⟨g, 0, none⟩ : Addr).add j) = some u) :=
            piece_cells (zs := rest) (len := rest.length) (off := 0) rfl (fun j hj => (((Below.refl w4.heap.size w4).alloc (Nat.le_refl _) _).drew.cell (p := ⟨g, 0 + j, none⟩) hg4).trans (hcs.out j hj)) 0 q 0 (by omega) rfl
          have M1 : 0 + q ≤ maxLen := by unfold maxLen; omega
          have N1 : (0 + q) * 8 ≤ 140737488355328 := by omega
          have S1 : w4.heap.size ≤ (w4.alloc (.cells #[] 3)).drew.heap.size := by simp
          have M2 : q + (rest.length - (q + 1)) ≤ maxLen := by unfold maxLen; omega
          have N2 : (q + (rest.length - (q + 1))) * 8 ≤ 140737488355328 := by omega
          have M2e : q + 0 ≤ maxLen := by unfold maxLen; omega
          have N2e : (q + 0) * 8 ≤ 140737488355328 := by omega
          by_cases hck : cap = q + 1
          · subst hck
            have hzl : rest.length ≤ q + 1 := by omega
            have L2e : Hid (((rest.drop (q + 1)).map (Value.int .i64)).length = 0 * 1) := by unfold Hid; simp; omega
            have PE := Lib.hid (rest_none hzl)
            have hkci : (q : Int) ≤ (q : Int) + 1 := by omega
            have hkcc : (q : Int) + 1 ≤ (q : Int) + 1 := by omega
            have hzk : (rest.length : Int) ≤ (q : Int) + 1 := by omega
            have hw1 : IntKind.i64.wrap ((q : Int) + 1) = (q : Int) + 1 := IntWalk.i64_in _ (by omega)
            have ht1 : ((q : Int) + 1).toNat = q + 1 := by omega
            go_region_law (first
              | (refine step_append_own (by rfl) _ _ _ (by rfl) w4.heap.size 3 i0 (.int .i64 0) 1 8 Tq.underlying27 hi hz0 hz1 hz2 rfl Nat.one_pos (.slice (some ⟨w4.heap.size, 0, none⟩) 0 0) 0 [] (by rfl) hE.out ⟨g, 0, none⟩ q _ ((rest.take q).map (Value.int .i64)) (by rfl) L1.out P1.out (ints_one _) M1 N1 S1 ?_; intro v5 w5 hown5 hgrow5 _; simp only [Nat.zero_add, List.nil_append] at hown5; obtain ⟨a5, c5, rfl⟩ := owns_slice hown5; have C5 := Lib.hid (kept_cells hg4 hgrow5 hcs.out); have B5 := Lib.hid (kept_below hgrow5); have O5 := Lib.hid hown5; clear hown5 hgrow5)
              | (refine step_append_own (by rfl) _ _ _ (by rfl) w4.heap.size 3 i0 (.int .i64 0) 1 8 Tq.underlying27 hi hz0 hz1 hz2 rfl Nat.one_pos (.slice a5 q c5) q ((rest.take q).map (Value.int .i64)) (by rfl) O5.out ⟨g, 0, none⟩ 0 _ ((rest.drop (q + 1)).map (Value.int .i64)) (by rfl) L2e.out (fun j u h => (PE.out j u h).elim) (ints_one _) M2e N2e B5.out.size ?_; intro v6 w6 hown6 hgrow6 _; obtain ⟨a6, c6, rfl⟩ := owns_slice hown6; have B6 := Lib.hid (B5.out.grown hgrow6 B5.out.size (fun j ej => (O5.out.lt j ej).1)); have X6 := Lib.hid hown6; clear hown6 hgrow6))
            all_goals
              clear hw1 ht1
              have O6 := Lib.hid (lotsRow_low (owns_under HO4.out B6.out) (Nat.le_refl _))
              have hB6 := hB4.trans (B6.out.mono hB4.size)
              have hap6 : Hid (Apart (.slice a4 (out.length + 1) cap4) (.slice a6 (q + 0) c6)) := by
                intro j h1 h2
                have e1 := (HO4.out.lt j h1).2
                have e2 := (X6.out.lt j h2).1
                omega
              have X7 := Lib.hid (lotsRow_low X6.out hB4.size)
              have hinv : LotInv w k s (.int .i64 (d : Int)) (.slice a6 (q) c6) (.slice a4 (out.length + 1) cap4) w6 := by
                unfold LotInv
                refine ⟨d, rest.eraseIdx q, out ++ [z], a6, c6, a4, cap4, by omega, rfl, ?g1, ?g2, ?g3, ?g4, ?g5, ?g6, ?g7, ?g8, hB6⟩
                case g1 => rw [HEL.out, show rest.length - 1 = q by omega]
                case g2 => rw [List.length_append]; rfl
                case g3 => rw [HEL.out]; omega
                case g4 => rw [HEL.out, List.length_append, List.length_singleton]; omega
                case g5 => unfold Hid; rw [← hall.out, HST.out, HZ.out, List.append_assoc]; rfl
                case g6 => unfold Hid; rw [HEL.out, ← erase_parts, List.map_append]; have := X7.out; rwa [show rest.length - 1 = q + 0 by omega]
                case g7 => unfold Hid; rw [List.length_append]; exact O6.out
                case g8 => unfold Hid; rw [HEL.out, List.length_append, show rest.length - 1 = q + 0 by omega]; exact hap6.out
              have HINV := Lib.hid hinv
              have hms : q < rest.length := by omega
              clear hinv X6 X7 hap6 O6 B6
              go_wp2
              go_roundw
              case rel => exact ⟨_, _, _, HINV.out, rfl, rfl, rfl⟩
              case measure => simpa [sliceLen] using hms
          · have hkci : (q : Int) ≤ (cap : Int) := by omega
            have hkcc : (q : Int) + 1 ≤ (cap : Int) := by omega
            have hck2 : ¬ cap = q := by omega
            have hw1 : IntKind.i64.wrap ((q : Int) + 1) = (q : Int) + 1 := IntWalk.i64_in _ (by omega)
            have ht1 : ((q : Int) + 1).toNat = q + 1 := by omega
            go_region_law (first
              | (refine step_append_own (by rfl) _ _ _ (by rfl) w4.heap.size 3 i0 (.int .i64 0) 1 8 Tq.underlying27 hi hz0 hz1 hz2 rfl Nat.one_pos (.slice (some ⟨w4.heap.size, 0, none⟩) 0 0) 0 [] (by rfl) hE.out ⟨g, 0, none⟩ q _ ((rest.take q).map (Value.int .i64)) (by rfl) L1.out P1.out (ints_one _) M1 N1 S1 ?_; intro v5 w5 hown5 hgrow5 _; simp only [Nat.zero_add, List.nil_append] at hown5; obtain ⟨a5, c5, rfl⟩ := owns_slice hown5; have C5 := Lib.hid (kept_cells hg4 hgrow5 hcs.out); have B5 := Lib.hid (kept_below hgrow5); have O5 := Lib.hid hown5; clear hown5 hgrow5)
              | (refine step_append_own (by rfl) _ _ _ (by rfl) w4.heap.size 3 i0 (.int .i64 0) 1 8 Tq.underlying27 hi hz0 hz1 hz2 rfl Nat.one_pos (.slice a5 q c5) q ((rest.take q).map (Value.int .i64)) (by rfl) O5.out ⟨g, q + 1, none⟩ (rest.length - (q + 1)) _ ((rest.drop (q + 1)).map (Value.int .i64)) (by rfl) L2.out (piece_rest rfl C5.out (q + 1) (q + 1) hq1 (Nat.zero_add _).symm) (ints_one _) M2 N2 B5.out.size ?_; intro v6 w6 hown6 hgrow6 _; obtain ⟨a6, c6, rfl⟩ := owns_slice hown6; have B6 := Lib.hid (B5.out.grown hgrow6 B5.out.size (fun j ej => (O5.out.lt j ej).1)); have X6 := Lib.hid hown6; clear hown6 hgrow6))
            all_goals
              clear hw1 ht1
              obtain ⟨m, hm⟩ : ∃ m, q + (rest.length - (q + 1)) = m := ⟨_, rfl⟩
              rw [hm] at X6 ⊢
              have hmr : rest.length - 1 = m := by omega
              have hms : m < rest.length := by omega
              have O6 := Lib.hid (lotsRow_low (owns_under HO4.out B6.out) (Nat.le_refl _))
              have hB6 := hB4.trans (B6.out.mono hB4.size)
              have hap6 : Hid (Apart (.slice a4 (out.length + 1) cap4) (.slice a6 m c6)) := by
                intro j h1 h2
                have e1 := (HO4.out.lt j h1).2
                have e2 := (X6.out.lt j h2).1
                omega
              have X7 := Lib.hid (lotsRow_low X6.out hB4.size)
              have hinv : LotInv w k s (.int .i64 (d : Int)) (.slice a6 m c6) (.slice a4 (out.length + 1) cap4) w6 := by
                unfold LotInv
                refine ⟨d, rest.eraseIdx q, out ++ [z], a6, c6, a4, cap4, by omega, rfl, ?g1, ?g2, ?g3, ?g4, ?g5, ?g6, ?g7, ?g8, hB6⟩
                case g1 => rw [HEL.out, hmr]
                case g2 => rw [List.length_append]; rfl
                case g3 => rw [HEL.out]; omega
                case g4 => rw [HEL.out, List.length_append, List.length_singleton]; omega
                case g5 => unfold Hid; rw [← hall.out, HST.out, HZ.out, List.append_assoc]; rfl
                case g6 => unfold Hid; rw [HEL.out, ← erase_parts, List.map_append]; have := X7.out; rwa [hmr]
                case g7 => unfold Hid; rw [List.length_append]; exact O6.out
                case g8 => unfold Hid; rw [HEL.out, List.length_append, hmr]; exact hap6.out
              have HINV := Lib.hid hinv
              clear hinv X6 X7 hap6 O6 B6 hmr hm hck2 hkci hkcc hck hzci hk1i hk0 M1 N1 S1 M2 N2 M2e N2e L1 L2 P1 hqc hq1
              simp only [List.getElem_toArray, List.getElem_cons_succ, List.getElem_cons_zero, Act.put, List.setIfInBounds_toArray, List.set_cons_succ, List.set_cons_zero]
              go_wp2
              go_roundw
              case rel => exact HINV.out
              case measure => simpa [sliceLen] using hms
        · have hr0 : rest = [] := List.length_eq_zero_iff.1 (by omega)
          subst hr0
          have HL : Hid (out = lotsOf k s) := by
            have h2 := hall.out
            rw [lotR_nil, List.append_nil] at h2
            exact h2
          have hok : out.length = k := by simpa using hsum
          go_wp2
          go_ret2
          refine ⟨a2, cap2, by first | rfl | (rw [← hok]; rfl), ?_, hB⟩
          rw [← HL.out, ← hok]
          exact ho2.out

set_option maxHeartbeats 1000000 in
/-- **spec.LotsOf**, at arguments out of range. -/
theorem specLotsOf_no (n s : Int) (w : World) (h : okLots n s = false) :
    Calls Tq.prog 126 #[.int .i64 n, .int .i64 s] w fun e w' => e = .returned (.tuple #[.slice (some ⟨w.heap.size, 0, none⟩) 0 0, .bool false]) ∧ w' = w.alloc (.cells #[] 3) := by
  cases hn : inB n 1 5
  · have HN := Lib.hid hn; clear hn h
    go_enter Tq.func126, Tq.ntmps126
    go_wp2_with fail
    refine (l6In_any _ _ _ _).mono ?_
    rintro e w' ⟨he, rfl⟩
    rw [HN.out] at he
    subst he
    go_wp2
    go_ret2
    exact ⟨rfl, rfl⟩
  · have hs : inB s 0 999 = false := by rw [okLots, hn, Bool.true_and] at h; exact h
    have HN := Lib.hid hn
    have HS := Lib.hid hs; clear hn hs h
    go_enter Tq.func126, Tq.ntmps126
    go_wp2_with fail
    refine (l6In_any _ _ _ _).mono ?_
    rintro e w' ⟨he, rfl⟩
    rw [HN.out] at he
    subst he
    go_wp2_with fail
    refine (l6In_any _ _ _ _).mono ?_
    rintro e w' ⟨he, rfl⟩
    rw [HS.out] at he
    subst he
    go_wp2
    go_ret2
    exact ⟨rfl, rfl⟩

/-- **spec.LotsOf**. -/
theorem specLotsOf_any (n s : Int) (w : World) :
    Calls Tq.prog 126 #[.int .i64 n, .int .i64 s] w (Told w (lotsI n s) (okLots n s)) := by
  cases h : okLots n s
  · refine (specLotsOf_no n s w h).mono ?_
    rintro e w' ⟨rfl, rfl⟩
    rw [lotsI_no h]
    exact ⟨_, 0, rfl, World.ownsRow_lit w #[] 0 (Nat.le_refl _) (by unfold maxLen; omega) rfl, (Below.refl _ w).alloc (Nat.le_refl _) _⟩
  · have hh := okLots_of h
    obtain ⟨m, rfl⟩ := Int.eq_ofNat_of_zero_le (show 0 ≤ n by omega)
    obtain ⟨q, rfl⟩ := Int.eq_ofNat_of_zero_le (show 0 ≤ s by omega)
    refine (specLotsOf_yes m q w (by omega) (by omega) (by omega)).mono ?_
    rintro e w' ⟨a, cap, rfl, ho, hb⟩
    have hl : (lotsI (m : Int) (q : Int)).length = m := by rw [lotsI_yes h, lotsOf_length, Int.toNat_natCast]
    refine ⟨a, cap, by rw [hl], ?_, hb⟩
    rw [hl, lotsI_yes h]; exact ho

/-- **spec.LotsOf**, its answer named. -/
theorem specLotsOf_as (n s : Int) (pl : List Int) (ok : Bool) (w : World) (h1 : lotsI n s = pl) (h2 : okLots n s = ok) :
    Calls Tq.prog 126 #[.int .i64 n, .int .i64 s] w (Told w pl ok) := by
  subst h1; subst h2; exact specLotsOf_any n s w

end Go.Proofs.Ytgkakgibgfehaaa

namespace Go.Proofs.Ytgkakgibgfehaaa
open Go.RowKit

theorem Step.of_below {R : Nat} {w w' : World} (hb : Below w.heap.size w w') : Step R w w' := ⟨hb.os, hb.tape, hb.output, hb.size, fun k hk _ => hb.block k hk⟩

/-- A shorter part of a list that is owned. -/
theorem owns_part {w : World} {base g n cap k : Nat} {xs : List Value} {e : TypeId} (h : w.ownsRow base e 1 (.slice (some ⟨g, 0, none⟩) n cap) n xs) (hk : k ≤ n) : w.ownsRow base e 1 (.slice (some ⟨g, 0, none⟩) k cap) k (xs.take k) := by
  have hl := h.1
  refine ⟨by simp; omega, ?_⟩
  rcases h.2 with ⟨e0, _⟩ | ⟨g', c, cur, e1, h1, h2, h3, h4, h5, h6⟩
  · cases e0
  · injection e1 with e2 _ e3
    injection e2 with e2
    injection e2 with e2
    subst e2; subst e3
    refine .inr ⟨g, cap, cur, rfl, h1, h2, by omega, h4, h5, ?_⟩
    rw [← h6, List.take_take]; congr 1; omega

/-- Lots that were drawn: in memory of the call's own; the reader has gone on. -/
def DrawnLots (R p : Nat) (w : World) (e : Ending) (w' : World) : Prop := ∃ (zs : List Int) (a : Option Addr) (cap p' : Nat), e = .returned (.slice a zs.length cap) ∧ w'.ownsRow w.heap.size 3 1 (.slice a zs.length cap) zs.length (zs.map (Value.int .i64)) ∧ zs.length ≤ 5 ∧ Rd w' R p' ∧ p' ≤ p + 10 ∧ Step R w w'

set_option maxRecDepth 100000 in
set_option maxHeartbeats 2000000 in
/-- **l91Lots**. -/
theorem l91Lots_any (R p : Nat) (n : Int) (w : World) (h : Rd w R p) (hp : p + 30 ≤ 1000000) :
    Calls Tq.prog 95 #[.pointer (some ⟨R, 0, none⟩), .int .i64 n] w (DrawnLots R p w) := by
  have hRw := h.1
  have H0 := Lib.hid h; clear h
  go_enter Tq.func95, Tq.ntmps95
  go_wp2_with fail
  refine (pick_any R p 256 _ H0.out (by omega) (by omega) (by omega)).mono ?_
  rintro e w1 ⟨c, rfl, hc, hr1, hs1⟩
  have R1 := Lib.hid hr1
  have S1 := Lib.hid hs1
  clear H0 hr1 hs1
  obtain ⟨pl, hpl⟩ : ∃ pl, lotsI n ((c : Int) * 3) = pl := ⟨_, rfl⟩
  obtain ⟨ok, hok⟩ : ∃ ok, okLots n ((c : Int) * 3) = ok := ⟨_, rfl⟩
  have hp5 : pl.length ≤ 5 := by rw [← hpl]; exact lotsI_short _ _
  have hp1 : ok = true → 1 ≤ pl.length := fun e => by
    rw [e] at hok
    have := okLots_of hok
    have := lotsI_length hok
    rw [hpl] at this
    omega
  have HP := Lib.hid hpl
  have HK := Lib.hid hok
  have hp1 := Lib.hid hp1
  clear hpl hok
  go_wp2_with fail
  refine (specLotsOf_as _ _ pl ok _ HP.out HK.out).mono ?_
  rintro e w2 ⟨a2, c2, rfl, ho, hb⟩
  have R2 := Lib.hid (R1.out.below hb)
  have S2 := Lib.hid (S1.out.trans (Step.of_below hb))
  have O2 := Lib.hid (ho.mono S1.out.size)
  clear ho hb R1
  cases hk : ok
  · subst hk
    go_wp2
    go_ret
    exact ⟨pl, a2, c2, p + 1, rfl, O2.out, hp5, R2.out, by omega, S2.out⟩
  · subst hk
    have hp1 := hp1.out rfl
    go_wp2_with fail
    refine (pick_any R (p + 1) 24 _ R2.out (by omega) (by omega) (by omega)).mono ?_
    rintro e w3 ⟨d, rfl, hd, hr3, hs3⟩
    have R3 := Lib.hid hr3
    have O3 := Lib.hid (owns_step O2.out hs3 hRw)
    have S3 := Lib.hid (S2.out.trans hs3)
    clear hr3 hs3 R2 O2 S2 S1
    by_cases hd0 : 0 < d
    · have hdd : decide (0 < (d : Int)) = true := decide_eq_true (by omega)
      go_wp2
      go_ret
      exact ⟨pl, a2, c2, p + 1 + 1, rfl, O3.out, hp5, R3.out, by omega, S3.out⟩
    · have hdd : decide (0 < (d : Int)) = false := decide_eq_false (by omega)
      go_wp2_with fail
      refine (pick_any R (p + 1 + 1) (pl.length : Int) _ R3.out (by omega) (by omega) (by omega)).mono ?_
      rintro e w4 ⟨k, rfl, hk4, hr4, hs4⟩
      have R4 := Lib.hid hr4
      have O4 := Lib.hid (owns_step O3.out hs4 hRw)
      have S4 := Lib.hid (S3.out.trans hs4)
      clear hr4 hs4 R3 O3 S3
      have hkn : k < pl.length := by omega
      obtain ⟨g, rfl, hgw, hcap, hmx⟩ := owned_at O4.out (by omega)
      go_wp2_with fail
      refine (pick_any R (p + 1 + 1 + 1) 2 _ R4.out (by omega) (by omega) (by omega)).mono ?_
      rintro e w5 ⟨q, rfl, hq5, hr5, hs5⟩
      have R5 := Lib.hid hr5
      have O5 := Lib.hid (owns_step O4.out hs5 hRw)
      have S5 := Lib.hid (S4.out.trans hs5)
      clear hr5 hs5 R4 O4 S4
      cases hq0 : ((q : Int) == 0)
      · go_wp2_with fail
        refine (pick_any R (p + 1 + 1 + 1 + 1) 7 _ R5.out (by omega) (by omega) (by omega)).mono ?_
        rintro e w6 ⟨x, rfl, hx6, hr6, hs6⟩
        have R6 := Lib.hid hr6
        have O6 := Lib.hid (owns_step O5.out hs6 hRw)
        have S6 := Lib.hid (S5.out.trans hs6)
        clear hr6 hs6 R5 O5 S5
        have hgb := (O6.out.lt g rfl).1
        have hcell : w6.cell? ⟨g, k, none⟩ = some (.int .i64 (pl[k]?.getD 0)) := by rw [O6.out.cellAt k (by omega)]; simp [hkn]
        obtain ⟨z, hz⟩ : ∃ z, pl[k]?.getD 0 = z := ⟨_, rfl⟩
        rw [hz] at hcell
        have hfz := O6.out.frozenAt k
        have HS := Lib.hid (O6.out.stored k (.int .i64 ((x : Int) - 1)))
        have HR7 : Hid (Rd (w6.setCell ⟨g, k, none⟩ (.int .i64 ((x : Int) - 1))) R (p + 1 + 1 + 1 + 1 + 1)) := R6.out.grown (row := some g) ⟨rfl, rfl, rfl, by simp [World.setCell], fun i hi hne => Below.heap_setCell _ _ _ _ (fun e => hne (by rw [e]))⟩ (fun j ej => by injection ej with ej; omega)
        have HS7 : Hid (Step R w (w6.setCell ⟨g, k, none⟩ (.int .i64 ((x : Int) - 1)))) := S6.out.grown (row := some g) ⟨rfl, rfl, rfl, by simp [World.setCell], fun i hi hne => Below.heap_setCell _ _ _ _ (fun e => hne (by rw [e]))⟩ (fun j ej => by injection ej with ej; omega)
        clear hz
        go_wp2
        go_ret
        refine ⟨pl.set k ((x : Int) - 1), some ⟨g, 0, none⟩, c2, p + 1 + 1 + 1 + 1 + 1, by rw [List.length_set]; rfl, ?_, by rw [List.length_set]; exact hp5, HR7.out, by omega, HS7.out⟩
        rw [List.length_set, List.map_set]
        exact HS.out.1
      · go_wp2
        go_ret
        have hlt : (pl.take k).length = k := by simp; omega
        refine ⟨pl.take k, some ⟨g, 0, none⟩, c2, p + 1 + 1 + 1 + 1, by rw [hlt]; rfl, ?_, by rw [hlt]; omega, R5.out, by omega, S5.out⟩
        rw [hlt, List.map_take]
        exact owns_part O5.out (by omega)

end Go.Proofs.Ytgkakgibgfehaaa

namespace Go.Proofs.Ytgkakgibgfehaaa
open Go.RowKit

attribute [local go_sem] Oper.semAt_some

/-- What is drawn of a contest. -/
def DrewC (w : World) (e : Ending) (w' : World) : Prop := ∃ (ps : List Pl) (g cap : Nat) (lots : List Int) (a : Option Addr) (c : Nat), e = .returned (.tuple #[.slice (some ⟨g, 0, none⟩) ps.length cap, .slice a lots.length c]) ∧
  HasP w w' ps g cap ∧ w'.ownsRow w.heap.size 3 1 (.slice a lots.length c) lots.length (lots.map (Value.int .i64)) ∧ lots.length ≤ 5 ∧ Below w.heap.size w w'

set_option maxRecDepth 100000 in
set_option maxHeartbeats 4000000 in
/-- **l91Contest**. -/
theorem l91Contest_any (R p : Nat) (w : World) (h : Rd w R p) (hp : p + 3054 ≤ 1000000) :
    Calls Tq.prog 56 #[.pointer (some ⟨R, 0, none⟩)] w fun e w' => ∃ (ps : List Pl) (g cap : Nat) (lots : List Int) (a : Option Addr) (c p' : Nat), e = .returned (.tuple #[.slice (some ⟨g, 0, none⟩) ps.length cap, .slice a lots.length c]) ∧
      w'.ownsRow w.heap.size 48 2 (.slice (some ⟨g, 0, none⟩) ps.length cap) ps.length (cellsP ps) ∧ Small ps ∧ Few ps ∧ ps.length ≤ 13 ∧ w'.ownsRow w.heap.size 3 1 (.slice a lots.length c) lots.length (lots.map (Value.int .i64)) ∧ lots.length ≤ 5 ∧ Rd w' R p' ∧ Step R w w' := by
  have hRw := h.1
  have H := Lib.hid h; clear h
  go_enter Tq.func56, Tq.ntmps56
  go_wp2_with fail
  refine (pick_any R p 5 _ H.out (by omega) (by omega) (by omega)).mono ?_
  rintro e w1 ⟨d, rfl, hd, hr, hs⟩
  have R1 := Lib.hid hr
  have S1 := Lib.hid hs
  clear hr hs H
  go_wp2_with fail
  refine (pick_any R (p + 1) 2 _ R1.out (by omega) (by omega) (by omega)).mono ?_
  rintro e w2 ⟨d2, rfl, hd2, hr, hs⟩
  have R2 := Lib.hid hr
  have S2 := Lib.hid (S1.out.trans hs)
  clear hr hs R1 S1
  obtain ⟨N, hN⟩ : ∃ N : Nat, (1 : Int) + (d : Int) = (N : Int) ∧ 1 ≤ N ∧ N ≤ 5 := ⟨1 + d, by omega, by omega, by omega⟩
  have e1 := hN.1
  have hN1 := hN.2.1
  have hN5 := hN.2.2
  clear hN
  cases h0 : ((d2 : Int) == 0)
  · go_wp2_with fail
    refine (l91Piles_any R (p + 1 + 1) (N : Int) _ R2.out (by omega) (by omega) (by omega)).mono ?_
    rintro e w3 ⟨ps, g, c, p3, rfl, ho, hsm, hf, hl13, hr3, hp3, hs3⟩
    have HO := Lib.hid (World.ownsRow.mono ho S2.out.size)
    have HS := Lib.hid (S2.out.trans hs3)
    have HM := Lib.hid hsm
    have HF := Lib.hid hf
    have HR := Lib.hid hr3
    clear ho hsm hf hr3 hs3 R2 S2
    go_wp2_with fail
    refine (pick_any R p3 20 _ HR.out (by omega) (by omega) (by omega)).mono ?_
    rintro e w4 ⟨d4, rfl, hd4, hr, hs⟩
    have HO4 := Lib.hid (owns_step HO.out hs hRw)
    have S4 := Lib.hid (HS.out.trans hs)
    have R4 := Lib.hid hr
    clear hr hs HO HS HR
    cases h4 : ((d4 : Int) == 0)
    · go_wp2_with fail
      refine (l91Lots_any R (p3 + 1) (N : Int) _ R4.out (by omega)).mono ?_
      rintro e w5 ⟨lots, a5, c5, p5, rfl, hol, hl5, hr5, hp5, hs5⟩
      have HO5 := Lib.hid (owns_step HO4.out hs5 hRw)
      have HL5 := Lib.hid (World.ownsRow.mono hol S4.out.size)
      have S5 := Lib.hid (S4.out.trans hs5)
      have R5 := Lib.hid hr5
      clear hol hs5 hr5 HO4 S4 R4
      go_wp2
      go_ret2
      exact ⟨ps, g, c, lots, a5, c5, p5, rfl, HO5.out, HM.out, HF.out, hl13, HL5.out, hl5, R5.out, S5.out⟩
    · go_wp2_with fail
      refine (pick_any R (p3 + 1) 5 _ R4.out (by omega) (by omega) (by omega)).mono ?_
      rintro e w6 ⟨d6, rfl, hd6, hr, hs⟩
      have HO6 := Lib.hid (owns_step HO4.out hs hRw)
      have S6 := Lib.hid (S4.out.trans hs)
      have R6 := Lib.hid hr
      clear hr hs HO4 S4 R4
      go_wp2_with fail
      refine (l91Lots_any R (p3 + 1 + 1) _ _ R6.out (by omega)).mono ?_
      rintro e w5 ⟨lots, a5, c5, p5, rfl, hol, hl5, hr5, hp5, hs5⟩
      have HO5 := Lib.hid (owns_step HO6.out hs5 hRw)
      have HL5 := Lib.hid (World.ownsRow.mono hol S6.out.size)
      have S5 := Lib.hid (S6.out.trans hs5)
      have R5 := Lib.hid hr5
      clear hol hs5 hr5 HO6 S6 R6
      go_wp2
      go_ret2
      exact ⟨ps, g, c, lots, a5, c5, p5, rfl, HO5.out, HM.out, HF.out, hl13, HL5.out, hl5, R5.out, S5.out⟩
  · go_wp2_with fail
    refine (l91Piles_any R (p + 1 + 1) 3 _ R2.out (by omega) (by omega) (by omega)).mono ?_
    rintro e w3 ⟨ps, g, c, p3, rfl, ho, hsm, hf, hl13, hr3, hp3, hs3⟩
    have HO := Lib.hid (World.ownsRow.mono ho S2.out.size)
    have HS := Lib.hid (S2.out.trans hs3)
    have HM := Lib.hid hsm
    have HF := Lib.hid hf
    have HR := Lib.hid hr3
    clear ho hsm hf hr3 hs3 R2 S2
    go_wp2_with fail
    refine (pick_any R p3 20 _ HR.out (by omega) (by omega) (by omega)).mono ?_
    rintro e w4 ⟨d4, rfl, hd4, hr, hs⟩
    have HO4 := Lib.hid (owns_step HO.out hs hRw)
    have S4 := Lib.hid (HS.out.trans hs)
    have R4 := Lib.hid hr
    clear hr hs HO HS HR
    cases h4 : ((d4 : Int) == 0)
    · go_wp2_with fail
      refine (l91Lots_any R (p3 + 1) 3 _ R4.out (by omega)).mono ?_
      rintro e w5 ⟨lots, a5, c5, p5, rfl, hol, hl5, hr5, hp5, hs5⟩
      have HO5 := Lib.hid (owns_step HO4.out hs5 hRw)
      have HL5 := Lib.hid (World.ownsRow.mono hol S4.out.size)
      have S5 := Lib.hid (S4.out.trans hs5)
      have R5 := Lib.hid hr5
      clear hol hs5 hr5 HO4 S4 R4
      go_wp2
      go_ret2
      exact ⟨ps, g, c, lots, a5, c5, p5, rfl, HO5.out, HM.out, HF.out, hl13, HL5.out, hl5, R5.out, S5.out⟩
    · go_wp2_with fail
      refine (pick_any R (p3 + 1) 5 _ R4.out (by omega) (by omega) (by omega)).mono ?_
      rintro e w6 ⟨d6, rfl, hd6, hr, hs⟩
      have HO6 := Lib.hid (owns_step HO4.out hs hRw)
      have S6 := Lib.hid (S4.out.trans hs)
      have R6 := Lib.hid hr
      clear hr hs HO4 S4 R4
      go_wp2_with fail
      refine (l91Lots_any R (p3 + 1 + 1) _ _ R6.out (by omega)).mono ?_
      rintro e w5 ⟨lots, a5, c5, p5, rfl, hol, hl5, hr5, hp5, hs5⟩
      have HO5 := Lib.hid (owns_step HO6.out hs5 hRw)
      have HL5 := Lib.hid (World.ownsRow.mono hol S6.out.size)
      have S5 := Lib.hid (S6.out.trans hs5)
      have R5 := Lib.hid hr5
      clear hol hs5 hr5 HO6 S6 R6
      go_wp2
      go_ret2
      exact ⟨ps, g, c, lots, a5, c5, p5, rfl, HO5.out, HM.out, HF.out, hl13, HL5.out, hl5, R5.out, S5.out⟩

set_option maxHeartbeats 2000000 in
/-- **DrawDepthWinner**. -/
theorem drawDepthW_any (a : Option Addr) (len cap : Nat) (bs : List Int) (w : World) (h : IsBytes w a len bs) (hcap : len ≤ cap) (hl : len ≤ 1048600) :
    Calls Tq.prog 30 #[.slice a len cap] w (DrewC w) := by
  have H := Lib.hid h; clear h
  go_enter Tq.func30, Tq.ntmps30
  go_wp2_with fail
  refine (open_any a len cap bs _ H.out hcap hl).mono ?_
  rintro e w1 ⟨rfl, hr, hb⟩
  have hw1 := hr.1
  go_wp2_with fail
  refine (l91Contest_any w.heap.size 0 _ hr (by omega)).mono ?_
  rintro e w2 ⟨ps, g, c, lots, a2, c2, p2, rfl, ho, hsm, hf, hl13, hol, hl5, hr2, hs⟩
  have HO := Lib.hid (ho.mono hb.size)
  have HL := Lib.hid (hol.mono hb.size)
  have HB := Lib.hid (hb.trans (hs.below (Nat.le_refl _) (Nat.le_of_lt hw1)))
  have HS := Lib.hid hsm
  have HF := Lib.hid hf
  clear ho hol hb hs hsm hf hr hr2
  go_wp2
  go_ret2
  exact ⟨ps, g, c, lots, a2, c2, rfl, ⟨HO.out, HS.out, HF.out, hl13⟩, HL.out, hl5, HB.out⟩
end Go.Proofs.Ytgkakgibgfehaaa

namespace Go.Proofs.Ytgkakgibgfehaaa

end Go.Proofs.Ytgkakgibgfehaaa

