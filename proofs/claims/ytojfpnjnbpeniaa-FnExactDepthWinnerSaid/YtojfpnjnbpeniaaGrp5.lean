/-
  Counts of places and of last places, as lists: places are preferences, candidates exchanged, full ballots. Of no memory.
  Counts of points: each ballot gives a candidate what the place is worth at which it names this one. Of no memory.
  What a slice of ints that the call owns says to a reader; lists that are filled, or compared. No condition but what each theorem says.
  What a slice of piles holds: two cells a pile, its text and its number. Of any type of two cells; no function of the seat.
  The iterators slices.Values at ints, letterCandidates and ballotCandidates: each yields its list in order, to every loop body that keeps what lay below. No condition but what each theorem says.
-/
import Derived.Test.YtojfpnjnbpeniaaGrp4
import Derived.Test.YtojfpnjnbpeniaaGrp1
import Derived.Laws.OwnMore
import Derived.OwnWalk
import Derived.Test.YtojfpnjnbpeniaaGrp2
import Derived.RangeFuncBox
import Derived.RangeFuncLeaves
import Derived.Shelf.Abstract
import Derived.OwnWalkIn
import Derived.TacticsInMore
import Derived.LoopNIn
import Derived.LoopIn
namespace Go.Proofs.Ytojfpnjnbpeniaa

/-- What a text gives to x: how many are not named ahead of it, without itself. -/
def plaF (n x : Nat) (t : ByteArray) : Int := if (x : Int) ∈ parseL t then (n : Int) - 1 - ((parseL t).idxOf (x : Int) : Int) else 0
def plaL (ps : List Pl) (n : Nat) : List Int := (List.range n).map fun x => wsum (plaF n x) ps
theorem plaL_length (ps : List Pl) (n : Nat) : (plaL ps n).length = n := by simp [plaL]
theorem plaL_at (ps : List Pl) {n x : Nat} (h : x < n) : (plaL ps n)[x]?.getD 0 = wsum (plaF n x) ps := by simp [plaL, h]
theorem pref_take {x y : Int} (hxy : x ≠ y) : ∀ {zs : List Int}, x ∈ zs → (prefL zs x y = true ↔ ¬ y ∈ zs.take (zs.idxOf x))
  | [], h => by cases h
  | z :: t, h => by
    unfold prefL
    rw [List.idxOf_cons]
    by_cases hx : z = x
    · rw [if_pos hx]
      simp [hx]
    · have h' : x ∈ t := by
        rcases List.mem_cons.1 h with e | e
        · exact absurd e.symm hx
        · exact e
      rw [if_neg hx]
      simp only [beq_eq_false_iff_ne.2 hx, cond_false, List.take_succ_cons, List.mem_cons, not_or]
      by_cases hy : z = y
      · rw [if_pos hy]
        simp [hy]
      · rw [if_neg hy, pref_take hxy h']
        exact ⟨fun g => ⟨fun e => hy e.symm, g⟩, fun g => g.2⟩
theorem pref_out {x y : Int} : ∀ {zs : List Int}, ¬ x ∈ zs → prefL zs x y = false := by
  intro zs h
  cases e : prefL zs x y
  · rfl
  · exact absurd (prefL_named e) h
theorem totI_compl (g : Nat → Int) (n : Nat) : totI ((List.range n).map fun k => 1 - g k) = (n : Int) - totI ((List.range n).map g) := by
  induction n with
  | zero => rfl
  | succ n ih =>
    simp only [List.range_succ, List.map_append, List.map_cons, List.map_nil, totI_snoc]
    rw [ih]; omega
/-- A place is a number of preferences. -/
theorem place_row {t : ByteArray} {n x : Nat} (h5 : validB (nums t) 5 = true) (hn : validB (nums t) (n : Int) = true) : totI ((List.range n).map fun y => prefF x y t) = plaF n x t := by
  have hd := vB_nodup hn
  have hm := (vB_mem hn).2.2
  unfold plaF
  rw [parseL_ok h5]
  by_cases hx : (x : Int) ∈ nums t
  · rw [if_pos hx]
    have hi : (nums t).idxOf (x : Int) < (nums t).length := List.idxOf_lt_length_iff.2 hx
    have htk : (nums t).take ((nums t).idxOf (x : Int) + 1) = (nums t).take ((nums t).idxOf (x : Int)) ++ [(x : Int)] := by
      rw [List.take_succ_eq_append_getElem hi, List.getElem_idxOf]
    have hin := totI_in (n := n) (l := (nums t).take ((nums t).idxOf (x : Int) + 1)) (hd.sublist (List.take_sublist _ _)) (fun z hz => hm z (List.mem_of_mem_take hz))
    rw [List.length_take, Nat.min_eq_left (by omega)] at hin
    have e : ((List.range n).map fun y => prefF x y t) = (List.range n).map fun (y : Nat) => 1 - (if (y : Int) ∈ (nums t).take ((nums t).idxOf (x : Int) + 1) then (1 : Int) else 0) := by
      refine List.map_congr_left (fun y _ => ?_)
      unfold prefF prefB
      rw [parseL_ok h5, h5, htk]
      by_cases exy : (x : Int) = (y : Int)
      · rw [if_pos (show (y : Int) ∈ (nums t).take ((nums t).idxOf (x : Int)) ++ [(x : Int)] by simp [exy])]
        simp [exy]
      · by_cases g : (y : Int) ∈ (nums t).take ((nums t).idxOf (x : Int))
        · rw [if_pos (show (y : Int) ∈ (nums t).take ((nums t).idxOf (x : Int)) ++ [(x : Int)] by simp only [List.mem_append]; exact .inl g)]
          have hp : prefL (nums t) (x : Int) (y : Int) = false := by
            cases e : prefL (nums t) (x : Int) (y : Int)
            · rfl
            · exact absurd g ((pref_take exy hx).1 e)
          simp [hp]
        · rw [if_neg (show ¬ (y : Int) ∈ (nums t).take ((nums t).idxOf (x : Int)) ++ [(x : Int)] by simp only [List.mem_append, List.mem_singleton, not_or]; exact ⟨g, fun e => exy e.symm⟩)]
          have hp := (pref_take exy hx).2 g
          simp [hp, exy]
    rw [e, totI_compl, hin]
    omega
  · rw [if_neg hx]
    have e : ((List.range n).map fun y => prefF x y t) = (List.range n).map fun (y : Nat) => if (-1 : Int) = (y : Int) then (1 : Int) else 0 := by
      refine List.map_congr_left (fun y _ => ?_)
      unfold prefF prefB
      rw [parseL_ok h5, pref_out hx, if_neg (show ¬ (-1 : Int) = (y : Int) by omega)]
      simp
    rw [e, totI_one, if_neg (by omega)]
/-- **Places are preferences.** -/
theorem place_pairs {ps : List Pl} {n x : Nat} (hx : x < n) (hv : ∀ p ∈ ps, validB (nums p.1) 5 = true ∧ validB (nums p.1) (n : Int) = true) : totI ((List.range n).map fun y => pairF ps x y) = (plaL ps n)[x]?.getD 0 := by
  rw [plaL_at ps hx]
  unfold pairF
  rw [totI_wsum]
  exact wsum_congr (fun p hp => place_row (hv p hp).1 (hv p hp).2)
theorem plaF_low {n x : Nat} {t : ByteArray} (h5 : validB (nums t) 5 = true) (hn : validB (nums t) (n : Int) = true) : 0 ≤ plaF n x t := by
  unfold plaF
  rw [parseL_ok h5]
  by_cases hx : (x : Int) ∈ nums t
  · rw [if_pos hx]
    have hi : (nums t).idxOf (x : Int) < (nums t).length := List.idxOf_lt_length_iff.2 hx
    have := vB_short hn
    omega
  · rw [if_neg hx]; exact Int.le_refl _
theorem plaL_low {ps : List Pl} {n x : Nat} (hx : x < n) (hv : ∀ p ∈ ps, validB (nums p.1) 5 = true ∧ validB (nums p.1) (n : Int) = true) (hp : ∀ p ∈ ps, 1 ≤ p.2) : 0 ≤ (plaL ps n)[x]?.getD 0 := by
  rw [plaL_at ps hx]
  exact wsum_nonneg (fun p hp' => plaF_low (hv p hp').1 (hv p hp').2) hp
theorem mem_turn (x y : Int) (zs : List Int) (z : Int) : swapC x y z ∈ turnB x y zs ↔ z ∈ zs := by
  unfold turnB
  constructor
  · intro h
    obtain ⟨u, hu, e⟩ := List.mem_map.1 h
    exact swapC_inj e ▸ hu
  · intro h
    exact List.mem_map.2 ⟨z, h, rfl⟩
theorem plaF_turn {x y : Int} (hx : 0 ≤ x ∧ x ≤ 4) (hy : 0 ≤ y ∧ y ≤ 4) (n k : Nat) {t : ByteArray} (h5 : validB (nums t) 5 = true) : plaF n (swapC x y (k : Int)).toNat (turnT x y t) = plaF n k t := by
  unfold plaF
  rw [parse_turn hx hy h5, Int.toNat_of_nonneg (swapC_low hx.1 hy.1 (Int.natCast_nonneg k)), idxOf_turn]
  by_cases e : (k : Int) ∈ parseL t
  · rw [if_pos e, if_pos ((mem_turn _ _ _ _).2 e)]
  · rw [if_neg e, if_neg (fun g => e ((mem_turn _ _ _ _).1 g))]
theorem plaL_turn {ps : List Pl} {x y : Int} {n : Nat} (hn : n ≤ 5) (hx : 0 ≤ x ∧ x < (n : Int)) (hy : 0 ≤ y ∧ y < (n : Int)) (hv : ∀ p ∈ ps, validB (nums p.1) 5 = true) {k : Nat} (hk : k < n) : (plaL (turnPs x y ps) n)[(swapC x y (k : Int)).toNat]?.getD 0 = (plaL ps n)[k]?.getD 0 := by
  have hs := (swapC_in (z := (k : Int)) hx hy).2 ⟨by omega, by omega⟩
  rw [plaL_at _ (by omega), plaL_at _ hk, wsum_turn]
  exact wsum_congr (fun p hp => plaF_turn (by omega) (by omega) n k (hv p hp))

/-- Whether x is the last one of a full text. -/
def lasF (n x : Nat) (t : ByteArray) : Int := if (parseL t).length = n ∧ (parseL t)[n - 1]?.getD (-1) = (x : Int) then 1 else 0
def lasL (ps : List Pl) (n : Nat) : List Int := (List.range n).map fun x => wsum (lasF n x) ps
theorem lasL_at (ps : List Pl) {n x : Nat} (h : x < n) : (lasL ps n)[x]?.getD 0 = wsum (lasF n x) ps := by simp [lasL, h]
theorem las_sum {ps : List Pl} {n : Nat} (hn : 1 ≤ n) (hv : ∀ p ∈ ps, validB (nums p.1) 5 = true ∧ validB (nums p.1) (n : Int) = true) : totI (lasL ps n) = wsum (fun t => if t.size = n then 1 else 0) ps := by
  unfold lasL
  rw [totI_wsum]
  refine wsum_congr (fun p hp => ?_)
  obtain ⟨h5, hn5⟩ := hv p hp
  have hm := (vB_mem hn5).2.2
  have hl := nums_length p.1
  by_cases e : p.1.size = n
  · rw [if_pos e]
    have h1 := totI_one n ((nums p.1)[n - 1]?.getD (-1))
    have hlt : n - 1 < (nums p.1).length := by omega
    have hg : (nums p.1)[n - 1]?.getD (-1) = (nums p.1)[n - 1] := by simp [hlt]
    have hz := hm _ (List.getElem_mem hlt)
    rw [if_pos (by rw [hg]; exact hz)] at h1
    rw [← h1]
    refine congrArg totI (List.map_congr_left (fun k _ => ?_))
    unfold lasF
    rw [parseL_ok h5]
    by_cases g : (nums p.1)[n - 1]?.getD (-1) = (k : Int)
    · rw [if_pos ⟨by omega, g⟩, if_pos g]
    · rw [if_neg (fun q => g q.2), if_neg g]
  · rw [if_neg e]
    have h1 := totI_one n (-1)
    rw [if_neg (by omega)] at h1
    rw [← h1]
    refine congrArg totI (List.map_congr_left (fun k _ => ?_))
    unfold lasF
    rw [parseL_ok h5, if_neg (fun q => e (by omega)), if_neg (by omega)]
/-- **Nobody is last on a ballot that names this one first.** -/
theorem las_first {ps : List Pl} {n x : Nat} (hn : 2 ≤ n) (hx : x < n) (hp : ∀ p ∈ ps, 1 ≤ p.2) (hv : ∀ p ∈ ps, validB (nums p.1) 5 = true) : (lasL ps n)[x]?.getD 0 + (plurC ps n)[x]?.getD 0 ≤ sumL ps := by
  rw [lasL_at ps hx, plurC, countsL_at _ _ (by rw [noneL_length]; exact hx), ← wsum_add]
  refine wsum_most (fun p hp' => ?_) hp
  have h5 := hv p hp'
  have hd := vB_nodup h5
  unfold lasF oneF
  rw [noneL, firstL_none, parseL_ok h5]
  by_cases a : (nums p.1).length = n ∧ (nums p.1)[n - 1]?.getD (-1) = (x : Int)
  · by_cases b : (nums p.1).head?.getD (-1) = (x : Int)
    · exfalso
      have h0 : 0 < (nums p.1).length := by omega
      have hl : n - 1 < (nums p.1).length := by omega
      have e1 : (nums p.1)[n - 1]?.getD (-1) = (nums p.1)[n - 1] := by simp [hl]
      have e2 : (nums p.1).head?.getD (-1) = (nums p.1)[0] := by rw [List.head?_eq_getElem?]; simp [h0]
      exact List.pairwise_iff_getElem.1 hd 0 (n - 1) h0 hl (by omega) (by omega)
    · rw [if_pos a, if_neg b]; omega
  · rw [if_neg a]; split <;> omega

end Go.Proofs.Ytojfpnjnbpeniaa

namespace Go.Proofs.Ytojfpnjnbpeniaa

theorem fits_both {ps : List Pl} {n : Int} (h : fitsB ps n = true) : pilesB ps = true ∧ ∀ p ∈ ps, validB (nums p.1) 5 = true ∧ validB (nums p.1) n = true := by
  simp only [fitsB, Bool.and_eq_true, List.all_eq_true] at h
  exact ⟨h.1, fun p hp => ⟨(pilesB_pos h.1).2.2.2.1 p hp, h.2.2 p hp⟩⟩
/-- What a text gives to x, if the place i is worth P i. -/
def ptF (P : Nat → Int) (x : Nat) (t : ByteArray) : Int := if (x : Int) ∈ parseL t then P ((parseL t).idxOf (x : Int)) else 0
def ptL (P : Nat → Int) (ps : List Pl) (n : Nat) : List Int := (List.range n).map fun x => wsum (ptF P x) ps
theorem ptL_length (P : Nat → Int) (ps : List Pl) (n : Nat) : (ptL P ps n).length = n := by simp [ptL]
theorem ptL_at (P : Nat → Int) (ps : List Pl) {n x : Nat} (h : x < n) : (ptL P ps n)[x]?.getD 0 = wsum (ptF P x) ps := by simp [ptL, h]
theorem ptL_nil (P : Nat → Int) (n : Nat) : ptL P [] n = List.replicate n 0 := by
  refine List.ext_getElem (by simp [ptL]) (fun i h1 h2 => ?_)
  simp [ptL, wsum_nil]
theorem ptL_congr {P Q : Nat → Int} {ps : List Pl} {n : Nat} (h : ∀ i, i < 5 → P i = Q i) : ptL P ps n = ptL Q ps n := by
  unfold ptL
  refine List.map_congr_left (fun x _ => wsum_congr (fun p _ => ?_))
  unfold ptF
  by_cases g : (x : Int) ∈ parseL p.1
  · rw [if_pos g, if_pos g]
    exact h _ (Nat.lt_of_lt_of_le (List.idxOf_lt_length_iff.2 g) (parseL_short _))
  · rw [if_neg g, if_neg g]

/-- The counts after the first i names of a ballot. -/
def addTo (P : Nat → Int) (m : Int) (zs : List Int) : Nat → List Int → List Int
  | 0, cs => cs
  | i + 1, cs => (addTo P m zs i cs).set (zs[i]?.getD 0).toNat ((addTo P m zs i cs)[(zs[i]?.getD 0).toNat]?.getD 0 + m * P i)
theorem addTo_zero (P : Nat → Int) (m : Int) (zs cs : List Int) : addTo P m zs 0 cs = cs := rfl
theorem addTo_succ (P : Nat → Int) (m : Int) (zs : List Int) (i : Nat) (cs : List Int) : addTo P m zs (i + 1) cs = (addTo P m zs i cs).set (zs[i]?.getD 0).toNat ((addTo P m zs i cs)[(zs[i]?.getD 0).toNat]?.getD 0 + m * P i) := rfl
theorem addTo_length (P : Nat → Int) (m : Int) (zs : List Int) (i : Nat) (cs : List Int) : (addTo P m zs i cs).length = cs.length := by
  induction i with
  | zero => rfl
  | succ i ih => rw [addTo_succ, List.length_set, ih]
theorem addTo_at {P : Nat → Int} {m : Int} {zs : List Int} (hd : zs.Nodup) (hz : ∀ z ∈ zs, 0 ≤ z) (cs : List Int) {x : Nat} (hx : x < cs.length) : ∀ i, i ≤ zs.length → (addTo P m zs i cs)[x]?.getD 0 = cs[x]?.getD 0 + m * (if (x : Int) ∈ zs ∧ zs.idxOf (x : Int) < i then P (zs.idxOf (x : Int)) else 0)
  | 0, _ => by rw [if_neg (fun h => absurd h.2 (Nat.not_lt_zero _)), Int.mul_zero, Int.add_zero]; rfl
  | i + 1, hi => by
    have ih := addTo_at (P := P) (m := m) hd hz cs hx i (by omega)
    have hlt : i < zs.length := by omega
    have e : zs[i]?.getD 0 = zs[i] := by simp [hlt]
    have hz0 := hz _ (List.getElem_mem hlt)
    have hix : zs.idxOf zs[i] = i := hd.idxOf_getElem i hlt
    rw [addTo_succ, e]
    by_cases g : zs[i].toNat = x
    · have gx : zs[i] = (x : Int) := by omega
      have hin : (x : Int) ∈ zs := by rw [← gx]; exact List.getElem_mem hlt
      rw [gx] at hix
      rw [g, List.getElem?_set_self (by rw [addTo_length]; exact hx)]
      rw [ih, hix, if_neg (fun h => absurd h.2 (Nat.lt_irrefl _)), if_pos ⟨hin, Nat.lt_succ_self _⟩]
      simp
    · rw [List.getElem?_set_ne g, ih]
      by_cases h : (x : Int) ∈ zs
      · have hne : zs.idxOf (x : Int) ≠ i := by
          intro e2
          have h2 := List.getElem_idxOf (List.idxOf_lt_length_iff.2 h)
          simp only [e2] at h2
          rw [h2] at g
          exact g (by simp)
        by_cases h3 : zs.idxOf (x : Int) < i
        · rw [if_pos ⟨h, h3⟩, if_pos ⟨h, by omega⟩]
        · rw [if_neg (fun q => h3 q.2), if_neg (fun q => by have := q.2; omega)]
      · rw [if_neg (fun q => h q.1), if_neg (fun q => h q.1)]
/-- **One pile more.** -/
theorem ptL_next {P : Nat → Int} {ps : List Pl} {n k : Nat} (hk : k < ps.length) (hv : validB (parseL (tAt ps k)) (n : Int) = true) : addTo P (mAt ps k) (parseL (tAt ps k)) (parseL (tAt ps k)).length (ptL P (ps.take k) n) = ptL P (ps.take (k + 1)) n := by
  have hm := (vB_mem hv).2.2
  refine List.ext_getElem (by rw [addTo_length, ptL_length, ptL_length]) (fun x h1 h2 => ?_)
  have hx : x < n := by rwa [ptL_length] at h2
  have e1 := addTo_at (P := P) (m := mAt ps k) (vB_nodup hv) (fun z hz => (hm z hz).1) (ptL P (ps.take k) n) (x := x) (by rw [ptL_length]; exact hx) _ (Nat.le_refl _)
  have e2 := ptL_at P (ps.take (k + 1)) hx
  have et : ps.take (k + 1) = ps.take k ++ [(tAt ps k, mAt ps k)] := by
    have e0 : (tAt ps k, mAt ps k) = ps[k] := by simp [tAt, mAt, hk]
    rw [List.take_succ_eq_append_getElem hk, e0]
  rw [et, wsum_snoc, ← ptL_at P (ps.take k) hx] at e2
  have g1 : (addTo P (mAt ps k) (parseL (tAt ps k)) (parseL (tAt ps k)).length (ptL P (ps.take k) n))[x]?.getD 0 = (addTo P (mAt ps k) (parseL (tAt ps k)) (parseL (tAt ps k)).length (ptL P (ps.take k) n))[x] := by simp [h1]
  have g2 : (ptL P (ps.take (k + 1)) n)[x]?.getD 0 = (ptL P (ps.take (k + 1)) n)[x] := by simp [h2]
  rw [← g1, ← g2, e1, et, e2]
  refine congrArg (fun z => (ptL P (ps.take k) n)[x]?.getD 0 + z) ?_
  unfold ptF
  by_cases h : (x : Int) ∈ parseL (tAt ps k)
  · rw [if_pos h, if_pos ⟨h, List.idxOf_lt_length_iff.2 h⟩, Int.mul_comm]
  · rw [if_neg h, if_neg (fun q => h q.1)]; simp
/-- Names behind the last one that counts change nothing. -/
theorem addTo_stop {P : Nat → Int} {m : Int} {zs : List Int} {d : Nat} (hP : ∀ i, d ≤ i → P i = 0) (cs : List Int) : ∀ i, d ≤ i → addTo P m zs i cs = addTo P m zs d cs
  | 0, h => by rw [Nat.le_zero.1 h]
  | i + 1, h => by
    by_cases e : d = i + 1
    · rw [e]
    · have ih := addTo_stop (P := P) (m := m) (zs := zs) hP cs i (by omega)
      rw [addTo_succ, hP i (by omega), ih, Int.mul_zero, Int.add_zero]
      refine List.ext_getElem (by simp) (fun j h1 h2 => ?_)
      by_cases g : (zs[i]?.getD 0).toNat = j
      · subst g
        simp [h2]
      · rw [List.getElem_set_ne g]
theorem addTo_miss {P : Nat → Int} {m : Int} {zs : List Int} {d : Nat} (hP : ∀ i, i < d → P i = 0) (cs : List Int) : ∀ i, i ≤ d → addTo P m zs i cs = cs
  | 0, _ => rfl
  | i + 1, h => by
    rw [addTo_succ, hP i (by omega), addTo_miss hP cs i (by omega), Int.mul_zero, Int.add_zero]
    refine List.ext_getElem (by simp) (fun j h1 h2 => ?_)
    by_cases g : (zs[i]?.getD 0).toNat = j
    · subst g
      simp [h2]
    · rw [List.getElem_set_ne g]
theorem addTo_bound {P : Nat → Int} {m : Int} {zs : List Int} {cs : List Int} {B : Int} {n : Nat} (hm : 0 ≤ m ∧ m ≤ 99) (hP : ∀ i, i < n → 0 ≤ P i ∧ P i ≤ 5) (hc : ∀ x : Nat, 0 ≤ cs[x]?.getD 0 ∧ cs[x]?.getD 0 ≤ B) : ∀ i, i ≤ n → ∀ x : Nat, 0 ≤ (addTo P m zs i cs)[x]?.getD 0 ∧ (addTo P m zs i cs)[x]?.getD 0 ≤ B + 495 * i
  | 0, _, x => by have := hc x; rw [addTo_zero]; omega
  | i + 1, h, x => by
    have ih := addTo_bound (zs := zs) hm hP hc i (by omega)
    have hp := hP i (by omega)
    have h0 : 0 ≤ m * P i := Int.mul_nonneg hm.1 hp.1
    have h1 : m * P i ≤ 99 * 5 := Int.mul_le_mul hm.2 hp.2 hp.1 (by omega)
    rw [addTo_succ]
    by_cases g : (zs[i]?.getD 0).toNat = x
    · rw [g]
      have := ih x
      by_cases gx : x < (addTo P m zs i cs).length
      · rw [List.getElem?_set_self gx]
        simp only [Option.getD_some]
        omega
      · rw [List.getElem?_eq_none (by rw [List.length_set]; omega)]
        have := hc x
        simp only [Option.getD_none]
        omega
    · rw [List.getElem?_set_ne g]
      have := ih x
      omega
theorem ptF_bound {P : Nat → Int} {n : Nat} (hP : ∀ i, i < n → 0 ≤ P i ∧ P i ≤ 5) (x : Nat) {t : ByteArray} (ht : (parseL t).length ≤ n) : 0 ≤ ptF P x t ∧ ptF P x t ≤ 5 := by
  unfold ptF
  by_cases g : (x : Int) ∈ parseL t
  · rw [if_pos g]; exact hP _ (Nat.lt_of_lt_of_le (List.idxOf_lt_length_iff.2 g) ht)
  · rw [if_neg g]; omega
theorem wsum_bound {f : ByteArray → Int} : ∀ {ps : List Pl}, (∀ p ∈ ps, (0 ≤ f p.1 ∧ f p.1 ≤ 5) ∧ 0 ≤ p.2 ∧ p.2 ≤ 99) → 0 ≤ wsum f ps ∧ wsum f ps ≤ 495 * ps.length
  | [], _ => by rw [wsum_nil]; simp
  | p :: ps, h => by
    have ih := wsum_bound (f := f) (ps := ps) (fun q hq => h q (by simp [hq]))
    obtain ⟨hf, hp⟩ := h p (by simp)
    have h0 : 0 ≤ f p.1 * p.2 := Int.mul_nonneg hf.1 hp.1
    have h1 : f p.1 * p.2 ≤ 5 * 99 := Int.mul_le_mul hf.2 hp.2 hp.1 (by omega)
    rw [wsum_cons, List.length_cons]
    omega
theorem ptL_bound {P : Nat → Int} {n : Nat} (hP : ∀ i, i < n → 0 ≤ P i ∧ P i ≤ 5) {ps : List Pl} (hp : fitsB ps (n : Int) = true) (k x : Nat) : 0 ≤ (ptL P (ps.take k) n)[x]?.getD 0 ∧ (ptL P (ps.take k) n)[x]?.getD 0 ≤ 5940 := by
  obtain ⟨hpv, hv⟩ := fits_both hp
  have h := pilesB_pos hpv
  by_cases hx : x < n
  · rw [ptL_at P _ hx]
    have := wsum_bound (f := ptF P x) (ps := ps.take k) (fun p hm => by
      have hm' := List.mem_of_mem_take hm
      have h2 := hv _ hm'
      have h3 := vB_short h2.2
      have h4 := h.2.1 _ hm'
      have h5 := h.2.2.1 _ hm'
      refine ⟨ptF_bound hP x (by rw [parseL_ok h2.1]; omega), by omega, by omega⟩)
    have hl : (ps.take k).length ≤ 12 := Nat.le_trans (by rw [List.length_take]; exact Nat.min_le_right _ _) h.2.2.2.2
    omega
  · rw [List.getElem?_eq_none (by rw [ptL_length]; omega)]
    simp

/-- Depths, places and last places are points. -/
def depP (d : Nat) (i : Nat) : Int := if i < d then 1 else 0
def plaP (n : Nat) (i : Nat) : Int := (n : Int) - 1 - (i : Int)
def lasP (n : Nat) (i : Nat) : Int := if i = n - 1 then 1 else 0
theorem take_iff {z : Int} : ∀ {zs : List Int} {d : Nat}, z ∈ zs.take d ↔ z ∈ zs ∧ zs.idxOf z < d
  | [], d => by simp
  | a :: t, 0 => by simp
  | a :: t, d + 1 => by
    rw [List.take_succ_cons, List.mem_cons, List.mem_cons, List.idxOf_cons]
    by_cases e : a = z
    · simp [e]
    · rw [beq_eq_false_iff_ne.2 e, cond_false, take_iff]
      constructor
      · rintro (h | ⟨h1, h2⟩)
        · exact absurd h.symm e
        · exact ⟨.inr h1, by omega⟩
      · rintro ⟨h | h, h2⟩
        · exact absurd h.symm e
        · exact .inr ⟨h, by omega⟩
theorem dep_pts (ps : List Pl) (n d : Nat) : depL ps n d = ptL (depP d) ps n := by
  unfold depL ptL
  refine List.map_congr_left (fun x _ => wsum_congr (fun p _ => ?_))
  unfold depF ptF depP
  by_cases h : (x : Int) ∈ (parseL p.1).take d
  · have := take_iff.1 h
    rw [if_pos h, if_pos this.1, if_pos this.2]
  · rw [if_neg h]
    by_cases g : (x : Int) ∈ parseL p.1
    · rw [if_pos g, if_neg (fun q => h (take_iff.2 ⟨g, q⟩))]
    · rw [if_neg g]
theorem pla_pts (ps : List Pl) (n : Nat) : plaL ps n = ptL (plaP n) ps n := rfl
theorem las_pts {ps : List Pl} {n : Nat} (hn : 1 ≤ n) (hv : ∀ p ∈ ps, validB (parseL p.1) (n : Int) = true) : lasL ps n = ptL (lasP n) ps n := by
  unfold lasL ptL
  refine List.map_congr_left (fun x _ => wsum_congr (fun p hp => ?_))
  have h := hv p hp
  have hd := vB_nodup h
  have hs := vB_short h
  unfold lasF ptF lasP
  by_cases g : (parseL p.1).length = n ∧ (parseL p.1)[n - 1]?.getD (-1) = (x : Int)
  · have hlt : n - 1 < (parseL p.1).length := by omega
    have e : (parseL p.1)[n - 1]?.getD (-1) = (parseL p.1)[n - 1] := by simp [hlt]
    have hi := hd.idxOf_getElem (n - 1) hlt
    rw [← e, g.2] at hi
    have hin : (x : Int) ∈ parseL p.1 := by rw [← g.2, e]; exact List.getElem_mem hlt
    rw [if_pos g, if_pos hin, if_pos hi]
  · rw [if_neg g]
    by_cases hin : (x : Int) ∈ parseL p.1
    · rw [if_pos hin, if_neg]
      intro hi
      have hlt := List.idxOf_lt_length_iff.2 hin
      have h2 := List.getElem_idxOf hlt
      simp only [hi] at h2
      rw [hi] at hlt
      exact g ⟨by omega, by simp [hlt, h2]⟩
    · rw [if_neg hin]
theorem depP_bound (d n : Nat) : ∀ i, i < n → 0 ≤ depP d i ∧ depP d i ≤ 5 := fun i _ => by unfold depP; split <;> omega
theorem plaP_bound {n : Nat} (hn : n ≤ 5) : ∀ i, i < n → 0 ≤ plaP n i ∧ plaP n i ≤ 5 := fun i h => by unfold plaP; omega
theorem lasP_bound (n : Nat) : ∀ i, i < n → 0 ≤ lasP n i ∧ lasP n i ≤ 5 := fun i _ => by unfold lasP; split <;> omega

end Go.Proofs.Ytojfpnjnbpeniaa

namespace Go.Proofs.Ytojfpnjnbpeniaa
open Go.RowKit

theorem int_info : (Try.prog.info? 3).map (fun i => (i.zero, i.size, i.bytes)) = some (some (.int .i64 0), 1, 8) := by kernel_rfl

/-- What a row that is owned says to a reader. -/
theorem IsInts.of_owns {w : World} {base g len cap : Nat} {zs : List Int} (h : w.ownsRow base 3 1 (.slice (some ⟨g, 0, none⟩) len cap) len (zs.map (Value.int .i64))) (hl : len ≤ 1048600) : IsInts w (some ⟨g, 0, none⟩) len cap zs := by
  have hlen : zs.length = len := by have := h.1; simpa using this
  have hcap : len ≤ cap := by
    rcases h.2 with ⟨e, _⟩ | ⟨_, c, _, e, _, _, hc, _⟩
    · cases e
    · injection e with _ _ e3; omega
  refine ⟨hlen, hcap, hl, fun hp => ⟨g, 0, rfl, ?_, fun j hj => ?_⟩⟩
  · exact (h.lt g rfl).2
  · rw [Nat.zero_add, h.cellAt j (by omega)]
    simp [show j < zs.length from by omega]

theorem owns_slice {w : World} {base : Nat} {e : TypeId} {size n : Nat} {v : Value} {xs : List Value} (h : w.ownsRow base e size v n xs) : ∃ a cap, v = .slice a n cap := by
  rcases h.2 with ⟨rfl, rfl⟩ | ⟨g, c, _, rfl, _⟩
  · exact ⟨none, 0, rfl⟩
  · exact ⟨_, c, rfl⟩
theorem IsInts.of_owned {w : World} {base len cap : Nat} {a : Option Addr} {zs : List Int} (h : w.ownsRow base 3 1 (.slice a len cap) len (zs.map (Value.int .i64))) (hl : len ≤ 1048600) : IsInts w a len cap zs := by
  rcases h.2 with ⟨e, e0⟩ | ⟨g, c, _, e, _⟩
  · subst e0
    have hz : zs = [] := by have := h.1; simpa using this
    subst hz
    exact ⟨rfl, Nat.zero_le _, hl, fun hp => by omega⟩
  · injection e with e1 e2 e3
    subst e1
    exact IsInts.of_owns h hl

/-- The first k of zs, then zeros: what toIntS has written when k rounds are over. -/
def fillTo (zs : List Int) (len k : Nat) : List Int := zs.take k ++ List.replicate (len - k) 0
theorem fillTo_step (zs : List Int) (len k : Nat) (hz : zs.length = len) (hk : k < len) : ((fillTo zs len k).map (Value.int .i64)).set k (.int .i64 (zs[k]?.getD 0)) = (fillTo zs len (k + 1)).map (Value.int .i64) := by
  have e : len - k = (len - (k + 1)) + 1 := by omega
  unfold fillTo
  rw [e, List.replicate_succ, List.take_succ_eq_append_getElem (by omega)]
  have hl : ((zs.take k).map (Value.int .i64)).length = k := by simp; omega
  simp only [List.map_append, List.map_cons, List.append_assoc, List.cons_append, List.nil_append]
  rw [List.set_append_right _ _ (by omega), hl, Nat.sub_self, List.set_cons_zero]
  simp [show k < zs.length from by omega]
theorem fillTo_all (zs : List Int) (len : Nat) (hz : zs.length = len) : fillTo zs len len = zs := by simp [fillTo, ← hz]

/-- Two lists of ints are equal. -/
def eqB (zs ys : List Int) : Bool := decide (zs = ys)
theorem eqB_self (zs : List Int) : eqB zs zs = true := by simp [eqB]
theorem take_step (zs ys : List Int) (k : Nat) (hz : k < zs.length) (hy : k < ys.length) (h : zs.take k = ys.take k) (he : zs[k]?.getD 0 = ys[k]?.getD 0) : zs.take (k + 1) = ys.take (k + 1) := by
  rw [List.take_succ_eq_append_getElem hz, List.take_succ_eq_append_getElem hy, h]
  simp [hz, hy] at he
  rw [he]
theorem take_part (zs ys : List Int) (k : Nat) (he : (zs[k]?.getD 0 == ys[k]?.getD 0) = false) : eqB zs ys = false := by
  simp only [eqB, decide_eq_false_iff_not]
  rintro rfl
  simp at he

end Go.Proofs.Ytojfpnjnbpeniaa

namespace Go.Proofs.Ytojfpnjnbpeniaa
open Go.RowKit

/-- The cells of piles. -/
def cellsP : List Pl → List Value
  | [] => []
  | p :: ps => .string p.1 :: .int .i64 p.2 :: cellsP ps
theorem cellsP_length : ∀ ps : List Pl, (cellsP ps).length = ps.length * 2
  | [] => rfl
  | p :: ps => by rw [cellsP, List.length_cons, List.length_cons, cellsP_length ps, List.length_cons]; omega
theorem cellsP_app (a b : List Pl) : cellsP (a ++ b) = cellsP a ++ cellsP b := by
  induction a with
  | nil => rfl
  | cons p a ih => rw [List.cons_append, cellsP, cellsP, ih]; rfl
theorem cellsP_one (p : Pl) : cellsP [p] = [.string p.1, .int .i64 p.2] := rfl
theorem cellsP_text : ∀ (ps : List Pl) (j : Nat), j < ps.length → (cellsP ps)[j * 2]? = some (.string (tAt ps j))
  | [], j, h => by simp at h
  | p :: ps, 0, _ => rfl
  | p :: ps, j + 1, h => by
    rw [tAt_cons, cellsP, show (j + 1) * 2 = j * 2 + 1 + 1 by omega, List.getElem?_cons_succ, List.getElem?_cons_succ]
    exact cellsP_text ps j (by simpa using h)
theorem cellsP_many : ∀ (ps : List Pl) (j : Nat), j < ps.length → (cellsP ps)[j * 2 + 1]? = some (.int .i64 (mAt ps j))
  | [], j, h => by simp at h
  | p :: ps, 0, _ => rfl
  | p :: ps, j + 1, h => by
    rw [mAt_cons, cellsP, show (j + 1) * 2 + 1 = j * 2 + 1 + 1 + 1 by omega, List.getElem?_cons_succ, List.getElem?_cons_succ]
    exact cellsP_many ps j (by simpa using h)
theorem cellsP_take : ∀ (ps : List Pl) (k : Nat), (cellsP ps).take (k * 2) = cellsP (ps.take k)
  | [], k => by simp [cellsP]
  | p :: ps, 0 => by simp [cellsP]
  | p :: ps, k + 1 => by rw [cellsP, show (k + 1) * 2 = k * 2 + 1 + 1 by omega, List.take_succ_cons, List.take_succ_cons, cellsP_take ps k, List.take_succ_cons, cellsP]
theorem cellsP_drop : ∀ (ps : List Pl) (k : Nat), (cellsP ps).drop (k * 2) = cellsP (ps.drop k)
  | [], k => by simp [cellsP]
  | p :: ps, 0 => by simp
  | p :: ps, k + 1 => by rw [cellsP, show (k + 1) * 2 = k * 2 + 1 + 1 by omega, List.drop_succ_cons, List.drop_succ_cons, cellsP_drop ps k, List.drop_succ_cons]
theorem cellsP_set : ∀ (ps : List Pl) (k : Nat) (m : Int), k < ps.length → (cellsP ps).set (k * 2 + 1) (.int .i64 m) = cellsP (ps.set k (tAt ps k, m))
  | [], k, m, h => by simp at h
  | p :: ps, 0, m, _ => rfl
  | p :: ps, k + 1, m, h => by
    rw [tAt_cons, cellsP, show (k + 1) * 2 + 1 = k * 2 + 1 + 1 + 1 by omega, List.set_cons_succ, List.set_cons_succ, cellsP_set ps k m (by simpa using h), List.set_cons_succ, cellsP]

/-- The slice value reads as the piles ps. -/
def IsPiles (w : World) (a : Option Addr) (len cap : Nat) (ps : List Pl) : Prop :=
  ps.length = len ∧ len ≤ cap ∧ len ≤ 1048600 ∧ (0 < len → ∃ b off, a = some ⟨b, off, none⟩ ∧ b < w.heap.size ∧
    ∀ j, j < len → w.cell? ⟨b, off + j * 2, none⟩ = some (.string (tAt ps j)) ∧ w.cell? ⟨b, off + j * 2 + 1, none⟩ = some (.int .i64 (mAt ps j)))
theorem IsPiles.below {w w' : World} {a : Option Addr} {len cap : Nat} {ps : List Pl} (h : IsPiles w a len cap ps) (hb : Below w.heap.size w w') : IsPiles w' a len cap ps := by
  obtain ⟨h1, h2, h3, h4⟩ := h
  refine ⟨h1, h2, h3, fun hl => ?_⟩
  obtain ⟨b, off, e, hlt, hc⟩ := h4 hl
  exact ⟨b, off, e, Nat.lt_of_lt_of_le hlt hb.size, fun j hj => ⟨(hb.cell (p := ⟨b, off + j * 2, none⟩) hlt).trans (hc j hj).1, (hb.cell (p := ⟨b, off + j * 2 + 1, none⟩) hlt).trans (hc j hj).2⟩⟩
theorem IsPiles.dr {w w' : World} {a : Option Addr} {len cap : Nat} {ps : List Pl} (h : IsPiles w a len cap ps) (hd : Dr w w') : IsPiles w' a len cap ps := h.below (hd.below _)
theorem tAt_take {ps : List Pl} {k j : Nat} (h : j < k) : tAt (ps.take k) j = tAt ps j := by unfold tAt; rw [List.getElem?_take_of_lt h]
theorem mAt_take {ps : List Pl} {k j : Nat} (h : j < k) : mAt (ps.take k) j = mAt ps j := by unfold mAt; rw [List.getElem?_take_of_lt h]
theorem tAt_drop (ps : List Pl) (k j : Nat) : tAt (ps.drop k) j = tAt ps (k + j) := by unfold tAt; rw [List.getElem?_drop]
theorem mAt_drop (ps : List Pl) (k j : Nat) : mAt (ps.drop k) j = mAt ps (k + j) := by unfold mAt; rw [List.getElem?_drop]
theorem IsPiles.take {w : World} {a : Option Addr} {len cap : Nat} {ps : List Pl} (h : IsPiles w a len cap ps) {k : Nat} (hk : k ≤ len) : IsPiles w a k cap (ps.take k) := by
  obtain ⟨h1, h2, h3, h4⟩ := h
  refine ⟨by simp; omega, by omega, by omega, fun hl => ?_⟩
  obtain ⟨b, off, e, hlt, hc⟩ := h4 (by omega)
  exact ⟨b, off, e, hlt, fun j hj => by rw [tAt_take hj, mAt_take hj]; exact hc j (by omega)⟩
theorem IsPiles.drop {w : World} {b off len cap cap' : Nat} {ps : List Pl} (h : IsPiles w (some ⟨b, off, none⟩) len cap ps) {k : Nat} (hk : k ≤ len) (hc' : len - k ≤ cap') : IsPiles w (some ⟨b, off + k * 2, none⟩) (len - k) cap' (ps.drop k) := by
  obtain ⟨h1, h2, h3, h4⟩ := h
  refine ⟨by rw [List.length_drop, h1], hc', Nat.le_trans (Nat.sub_le _ _) h3, fun hl => ?_⟩
  obtain ⟨b', off', e, hlt, hc⟩ := h4 (by omega)
  injection e with e
  injection e with e1 e2 e3
  subst e1; subst e2
  refine ⟨b, off + k * 2, rfl, hlt, fun j hj => ?_⟩
  have := hc (k + j) (by omega)
  rw [tAt_drop, mAt_drop, show off + k * 2 + j * 2 = off + (k + j) * 2 by omega]
  exact this
theorem IsPiles.empty (w : World) (a : Option Addr) (cap : Nat) : IsPiles w a 0 cap [] := ⟨rfl, Nat.zero_le _, by omega, fun h => by omega⟩
/-- What a row of piles that is owned says to a reader. -/
theorem IsPiles.of_owned {w : World} {base len cap : Nat} {e : TypeId} {a : Option Addr} {ps : List Pl} (h : w.ownsRow base e 2 (.slice a len cap) len (cellsP ps)) (hl : len ≤ 1048600) : IsPiles w a len cap ps := by
  have hlen : ps.length = len := by have h1 := h.1; rw [cellsP_length] at h1; omega
  rcases h.2 with ⟨e1, e0⟩ | ⟨g, c, cur, e1, hb, hg, hcap, hmax, hcur, htake⟩
  · subst e0
    have hz : ps = [] := List.length_eq_zero_iff.1 hlen
    subst hz
    exact ⟨rfl, Nat.zero_le _, hl, fun hp => by omega⟩
  · injection e1 with e1 e2 e3
    subst e1
    subst e3
    refine ⟨hlen, hcap, hl, fun hp => ⟨g, 0, rfl, (h.lt g rfl).2, fun j hj => ⟨?_, ?_⟩⟩⟩
    · rw [Nat.zero_add, h.cellAt (j * 2) (by omega)]
      exact cellsP_text ps j (by omega)
    · rw [Nat.zero_add]
      rw [h.cellAt (j * 2 + 1) (by omega)]
      exact cellsP_many ps j (by omega)
/-- The cells of a slice of piles, read together. -/
theorem IsPiles.cells {w : World} {b off len cap : Nat} {ps : List Pl} (h : IsPiles w (some ⟨b, off, none⟩) len cap ps) (j : Nat) (hj : j < len * 2) : w.cell? ⟨b, off + j, none⟩ = (cellsP ps)[j]? := by
  obtain ⟨h1, h2, h3, h4⟩ := h
  obtain ⟨b', off', e, hlt, hc⟩ := h4 (by omega)
  injection e with e
  injection e with e1 e2 e3
  subst e1; subst e2
  have hq := hc (j / 2) (by omega)
  rcases Nat.mod_two_eq_zero_or_one j with g | g
  · rw [show j = j / 2 * 2 by omega]
    rw [cellsP_text ps (j / 2) (by omega)]
    exact hq.1
  · rw [show j = j / 2 * 2 + 1 by omega]
    rw [cellsP_many ps (j / 2) (by omega)]
    exact hq.2

end Go.Proofs.Ytojfpnjnbpeniaa

namespace Go.Proofs.Ytojfpnjnbpeniaa
open Go.RowKit Go.Shelf

attribute [local go_sem] Oper.semAt_some

/-- What has come when k rounds are over. -/
def upto {α : Type} (f : Nat → α) (k : Nat) : List α := (List.range k).map f
theorem upto_succ {α : Type} (f : Nat → α) (k : Nat) : upto f (k + 1) = upto f k ++ [f k] := by simp [upto, List.range_succ]
theorem upto_length {α : Type} (f : Nat → α) (k : Nat) : (upto f k).length = k := by simp [upto]
theorem upto_all (zs : List Int) : upto (fun j => zs[j]?.getD 0) zs.length = zs := by
  apply List.ext_getElem
  · simp [upto]
  · intro i h1 h2
    simp [upto, h2]
theorem upto_take (zs : List Int) {k : Nat} (hk : k ≤ zs.length) : upto (fun j => zs[j]?.getD 0) k = zs.take k := by
  apply List.ext_getElem
  · simp [upto, hk]
  · intro i h1 h2
    have : i < zs.length := by simp [upto] at h1; omega
    simp [upto, this]

set_option maxRecDepth 100000 in
set_option maxHeartbeats 2000000 in
/-- slices.Values's closure, at a slice with elements. -/
theorem values1_in (F : Fence) (n : Nat) (hF : F.fn 164) (hro : F.round = none) (hn : 1 ≤ n) (l Bs n₀ b off len cap : Nat) {α : Type} (f : α → Int) (x : Nat → α) (hreach : len ≤ 1048600) (hb : b < n₀) (J Jx : List α → World → Prop)
    (hY : ∀ pre x W, J pre W → pre.length < len → YieldAt F (n - 1) Try.prog l #[.int .i64 (f x)] W fun e W' =>
      (e = .returned (.bool true) ∧ J (pre ++ [x]) W' ∧ Below n₀ W W') ∨ (e = .returned (.bool false) ∧ Jx (pre ++ [x]) W'))
    (W : World) (hBs : W.cell? ⟨Bs, 0, none⟩ = some (.slice (some ⟨b, off, none⟩) len cap)) (hc : ∀ j, j < len → W.cell? ⟨b, off + j, none⟩ = some (.int .i64 (f (x j)))) (h0 : J [] W) :
    CallsIn F n Try.prog 164 #[.func (.yield l) #[] #[], .pointer (some ⟨Bs, 0, none⟩)] W fun e W' => (∃ v, e = .returned v) ∧
      ((∃ ys, ys = upto x len ∧ J ys W') ∨ (∃ pre, (∃ k, k ≤ len ∧ pre = upto x k) ∧ Jx pre W')) := by
  refine callsIn_of_wp Try.func164 rfl hF ?_ hro
  simp only [Try.ntmps164, List.size_toArray, List.length_cons, List.length_nil, Nat.reduceAdd, Nat.reduceSub, Array.replicate_succ, Array.replicate_zero, List.push_toArray, List.append_toArray, List.nil_append, List.cons_append]
  gi_wp2
  gi_loopw [7] (fun i wr => ∃ k : Nat, k ≤ len ∧ i = .int .i64 k ∧ J (upto x k) wr ∧ Below n₀ W wr)
    (fun i _ => len - (intOf i).toNat)
  case atStart => exact ⟨0, Nat.zero_le _, rfl, h0, Below.refl _ _⟩
  case round =>
    obtain ⟨k, hk, rfl, hJs, hnx⟩ := hrel
    have hcx : k < len → wr.cell? ⟨b, off + k, none⟩ = some (.int .i64 (f (x k))) := fun h => (hnx.cell (p := ⟨b, off + k, none⟩) hb).trans (hc k h)
    by_cases hlt : k < len
    · obtain ⟨fn, tmps, assign, body, hy, hR⟩ := hY _ (x k) wr hJs (by rw [upto_length]; exact hlt)
      have hcx' := hcx hlt
      gi_wp2
      refine hR.mono ?_
      rintro e W3 (⟨rfl, hJ3, hk3⟩ | ⟨rfl, hJx3⟩)
      · gi_wp2
        go_roundw
        case rel => exact ⟨k + 1, by omega, by simp, by rw [upto_succ]; exact hJ3, hnx.trans hk3⟩
        case measure => simp [intOf]; omega
      · gi_wp2
        refine bodyPost_ret (results_none rfl _ _ _) rfl ?_
        exact ⟨⟨_, rfl⟩, .inr ⟨_, ⟨k + 1, by omega, (upto_succ _ _).symm⟩, hJx3⟩⟩
    · obtain rfl : k = len := by omega
      gi_wp2
      go_end0
      exact ⟨⟨_, rfl⟩, .inl ⟨_, rfl, hJs⟩⟩

set_option maxRecDepth 100000 in
set_option maxHeartbeats 1000000 in
/-- .. at a slice without elements: no round. -/
theorem values1_nil_in (F : Fence) (n : Nat) (hF : F.fn 164) (hro : F.round = none) (l Bs cap : Nat) (a : Option Addr) {α : Type} (J : List α → World → Prop) (W : World) (hBs : W.cell? ⟨Bs, 0, none⟩ = some (.slice a 0 cap)) (h0 : J [] W) :
    CallsIn F n Try.prog 164 #[.func (.yield l) #[] #[], .pointer (some ⟨Bs, 0, none⟩)] W fun e W' => (∃ v, e = .returned v) ∧ J [] W' := by
  refine callsIn_of_wp Try.func164 rfl hF ?_ hro
  simp only [Try.ntmps164, List.size_toArray, List.length_cons, List.length_nil, Nat.reduceAdd, Nat.reduceSub, Array.replicate_succ, Array.replicate_zero, List.push_toArray, List.append_toArray, List.nil_append, List.cons_append]
  gi_wp2
  gi_loopw [7] (fun i wr => i = .int .i64 0 ∧ J [] wr) (fun _ _ => 0)
  case atStart => exact ⟨rfl, h0⟩
  case round =>
    obtain ⟨rfl, hJs⟩ := hrel
    gi_wp2
    go_end0
    exact ⟨⟨_, rfl⟩, hJs⟩

set_option maxHeartbeats 1000000 in
/-- **slices.Values(s)**: the slice value is boxed; the function value captures the box. -/
theorem values_in (F : Fence) (n : Nat) (hF : F.fn 147) (hro : F.round = none) (a : Option Addr) (len cap : Nat) (w : World) :
    CallsIn F n Try.prog 147 #[.slice a len cap] w fun e w' => e = .returned (.func (.func 164) #[] #[.pointer (some ⟨w.heap.size, 0, none⟩)]) ∧ w' = w.alloc (.cells #[.slice a len cap] 26) := by
  refine callsIn_of_wp Try.func147 rfl hF ?_ hro
  simp only [Try.ntmps147, List.size_toArray, List.length_cons, List.length_nil, Nat.reduceAdd, Nat.reduceSub, Array.replicate_succ, Array.replicate_zero, List.push_toArray, List.append_toArray, List.nil_append, List.cons_append]
  gi_wp2
  go_ret
  exact ⟨rfl, rfl⟩

set_option maxHeartbeats 1000000 in
/-- **ballotCandidates(b)**: just slices.Values(b). -/
theorem candidates_in (F : Fence) (n : Nat) (hn : 1 ≤ n) (hF : F.fn 117) (hV : F.fn 147) (hro : F.round = none) (a : Option Addr) (len cap : Nat) (w : World) :
    CallsIn F n Try.prog 117 #[.slice a len cap] w fun e w' => e = .returned (.func (.func 164) #[] #[.pointer (some ⟨w.heap.size, 0, none⟩)]) ∧ w' = w.alloc (.cells #[.slice a len cap] 26) := by
  refine callsIn_of_wp Try.func117 rfl hF ?_ hro
  simp only [Try.ntmps117, List.size_toArray, List.length_cons, List.length_nil, Nat.reduceAdd, Nat.reduceSub, Array.replicate_succ, Array.replicate_zero, List.push_toArray, List.append_toArray, List.nil_append, List.cons_append]
  gi_wp2_with (gi_at_call 147; refine (values_in F (n - 1) hV hro _ _ _ _).mono ?_; rintro e w' ⟨rfl, rfl⟩)
  go_ret
  exact ⟨rfl, rfl⟩

/-- **slices.Values(s) yields the ints of s in order**, whatever the body does that keeps what lay below; the body may know of each int what its type says. -/
theorem values_stops_g {α : Type} (f : α → Int) (xs : List α) (F : Fence) (n : Nat) (hF : F.fn 164) (hro : F.round = none) (hn : 1 ≤ n) (Bs : Nat) (a : Option Addr) (len cap : Nat) (zs : List Int) (has : xs.map f = zs) (w0 w : World) (hBs : Bs < w.heap.size) (hb0 : Below w0.heap.size w0 w)
    (hc : w.cell? ⟨Bs, 0, none⟩ = some (.slice a len cap)) (hI : IsInts w0 a len cap zs) :
    SeqStopsK F n Try.prog 164 #[.pointer (some ⟨Bs, 0, none⟩)] (fun x : α => #[Value.int .i64 (f x)]) (Below w0.heap.size) (fun ys => ys = xs) (fun pre => pre <+: xs) len w := fun l J Jx W hW _ _ hY h0 => by
  have hc' := (hW.cell (p := ⟨Bs, 0, none⟩) hBs).trans hc
  have hB := hb0.trans (hW.mono hb0.size)
  obtain ⟨h1, h2, h3, h4⟩ := hI
  have hal : xs.length = len := by rw [← h1, ← has, List.length_map]
  by_cases hl : 0 < len
  · obtain ⟨b, off, rfl, hb, hcs⟩ := h4 hl
    obtain ⟨a0, at0, ha0⟩ : ∃ a0 t, xs = a0 :: t := by
      cases xs with
      | nil => simp at hal; omega
      | cons a0 t => exact ⟨a0, t, rfl⟩
    have hx : ∀ j, j < len → zs[j]?.getD 0 = f (xs[j]?.getD a0) := fun j hj => by
      rw [← has]; simp [show j < xs.length from by omega]
    have hall : upto (fun j => xs[j]?.getD a0) len = xs := by
      apply List.ext_getElem
      · simp [upto, hal]
      · intro i h1 h2
        simp [upto, h2]
    have htake : ∀ k, k ≤ len → upto (fun j => xs[j]?.getD a0) k = xs.take k := fun k hk => by
      apply List.ext_getElem
      · simp [upto]; omega
      · intro i h1 h2
        have : i < xs.length := by simp [upto] at h1; omega
        simp [upto, this]
    refine (values1_in F n hF hro hn l Bs w0.heap.size b off len cap f (fun j => xs[j]?.getD a0) h3 hb J Jx hY W hc' (fun j hj => by rw [← hx j hj]; exact (hB.cell (p := ⟨b, off + j, none⟩) hb).trans (hcs j hj)) h0).mono ?_
    rintro e W' ⟨he, ⟨ys, rfl, hj⟩ | ⟨pre, ⟨k, hk, rfl⟩, hj⟩⟩
    · exact ⟨he, .inl ⟨_, hall, hj⟩⟩
    · exact ⟨he, .inr ⟨_, by rw [htake k hk]; exact List.take_prefix _ _, hj⟩⟩
  · obtain rfl : len = 0 := by omega
    obtain rfl : xs = [] := List.length_eq_zero_iff.1 hal
    exact (values1_nil_in F n hF hro l Bs cap a J W hc' h0).mono fun e W' ⟨he, hj⟩ => ⟨he, .inl ⟨_, rfl, hj⟩⟩

theorem values_stops (F : Fence) (n : Nat) (hF : F.fn 164) (hro : F.round = none) (hn : 1 ≤ n) (Bs : Nat) (a : Option Addr) (len cap : Nat) (zs : List Int) (w0 w : World) (hBs : Bs < w.heap.size) (hb0 : Below w0.heap.size w0 w)
    (hc : w.cell? ⟨Bs, 0, none⟩ = some (.slice a len cap)) (hI : IsInts w0 a len cap zs) :
    SeqStopsK F n Try.prog 164 #[.pointer (some ⟨Bs, 0, none⟩)] (fun x : Int => #[Value.int .i64 x]) (Below w0.heap.size) (fun ys => ys = zs) (fun pre => pre <+: zs) len w :=
  values_stops_g (fun z : Int => z) zs F n hF hro hn Bs a len cap zs (by simp) w0 w hBs hb0 hc hI

end Go.Proofs.Ytojfpnjnbpeniaa
