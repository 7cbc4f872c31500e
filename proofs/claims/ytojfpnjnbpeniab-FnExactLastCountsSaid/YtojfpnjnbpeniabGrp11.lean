/-
  Counts of places and of last places, as lists: places are preferences, candidates exchanged, full ballots. Of no memory.
  Counts of points: each ballot gives a candidate what the place is worth at which it names this one. Of no memory.
  Whether piles fit n candidates: spec.l3Fits, for every list of piles (at most 1048600, with texts of at most 1048600 bytes) and every number; it does not write into memory that was there.
  What the counts of points tell, at every list of piles and every number. Of no memory but what fitsB's text names.
  How long the lists of counts are.
  impl.onePoint, and the ways to count: closures that tell what an index is worth. No condition but what each theorem says.
-/
import Derived.Test.YtojfpnjnbpeniabGrp10
import Derived.Test.YtojfpnjnbpeniabGrp4
import Derived.Test.YtojfpnjnbpeniabGrp3
import Derived.Test.YtojfpnjnbpeniabGrp8
import Derived.Test.YtojfpnjnbpeniabGrp2
import Derived.Test.YtojfpnjnbpeniabGrp7
namespace Go.Proofs.Ytojfpnjnbpeniab

/-- What a text gives to x: how many are not named ahead of it, without itself. -/
def plaF (n x : Nat) (t : ByteArray) : Int := if (x : Int) ∈ parseL t then (n : Int) - 1 - ((parseL t).idxOf (x : Int) : Int) else 0
def plaL (ps : List Pl) (n : Nat) : List Int := (List.range n).map fun x => wsum (plaF n x) ps
theorem plaL_length (ps : List Pl) (n : Nat) : (plaL ps n).length = n := by simp [plaL]
theorem plaL_at (ps : List Pl) {n x : Nat} (h : x < n) : (plaL ps n)[x]?.getD 0 = wsum (plaF n x) ps := by simp [plaL, h]
theorem pref_take {x y : Int} (hxy : x ≠ y) : ∀ {zs : List Int}, x ∈ zs → (prefL zs x y = true ↔ ¬ y ∈ zs.take (zs.idxOf x))
  | [], h => by cases h
  | z :: t, h => by
    unfold prefL
    rw [List.idxOf_cons]
    by_cases hx : z = x
    · rw [if_pos hx]
      simp [hx]
    · have h' : x ∈ t := by
        rcases List.mem_cons.1 h with e | e
        · exact absurd e.symm hx
        · exact e
      rw [if_neg hx]
      simp only [beq_eq_false_iff_ne.2 hx, cond_false, List.take_succ_cons, List.mem_cons, not_or]
      by_cases hy : z = y
      · rw [if_pos hy]
        simp [hy]
      · rw [if_neg hy, pref_take hxy h']
        exact ⟨fun g => ⟨fun e => hy e.symm, g⟩, fun g => g.2⟩
theorem pref_out {x y : Int} : ∀ {zs : List Int}, ¬ x ∈ zs → prefL zs x y = false := by
  intro zs h
  cases e : prefL zs x y
  · rfl
  · exact absurd (prefL_named e) h
theorem totI_compl (g : Nat → Int) (n : Nat) : totI ((List.range n).map fun k => 1 - g k) = (n : Int) - totI ((List.range n).map g) := by
  induction n with
  | zero => rfl
  | succ n ih =>
    simp only [List.range_succ, List.map_append, List.map_cons, List.map_nil, totI_snoc]
    rw [ih]; omega
/-- A place is a number of preferences. -/
theorem place_row {t : ByteArray} {n x : Nat} (h5 : validB (nums t) 5 = true) (hn : validB (nums t) (n : Int) = true) : totI ((List.range n).map fun y => prefF x y t) = plaF n x t := by
  have hd := vB_nodup hn
  have hm := (vB_mem hn).2.2
  unfold plaF
  rw [parseL_ok h5]
  by_cases hx : (x : Int) ∈ nums t
  · rw [if_pos hx]
    have hi : (nums t).idxOf (x : Int) < (nums t).length := List.idxOf_lt_length_iff.2 hx
    have htk : (nums t).take ((nums t).idxOf (x : Int) + 1) = (nums t).take ((nums t).idxOf (x : Int)) ++ [(x : Int)] := by
      rw [List.take_succ_eq_append_getElem hi, List.getElem_idxOf]
    have hin := totI_in (n := n) (l := (nums t).take ((nums t).idxOf (x : Int) + 1)) (hd.sublist (List.take_sublist _ _)) (fun z hz => hm z (List.mem_of_mem_take hz))
    rw [List.length_take, Nat.min_eq_left (by omega)] at hin
    have e : ((List.range n).map fun y => prefF x y t) = (List.range n).map fun (y : Nat) => 1 - (if (y : Int) ∈ (nums t).take ((nums t).idxOf (x : Int) + 1) then (1 : Int) else 0) := by
      refine List.map_congr_left (fun y _ => ?_)
      unfold prefF prefB
      rw [parseL_ok h5, h5, htk]
      by_cases exy : (x : Int) = (y : Int)
      · rw [if_pos (show (y : Int) ∈ (nums t).take ((nums t).idxOf (x : Int)) ++ [(x : Int)] by simp [exy])]
        simp [exy]
      · by_cases g : (y : Int) ∈ (nums t).take ((nums t).idxOf (x : Int))
        · rw [if_pos (show (y : Int) ∈ (nums t).take ((nums t).idxOf (x : Int)) ++ [(x : Int)] by simp only [List.mem_append]; exact .inl g)]
          have hp : prefL (nums t) (x : Int) (y : Int) = false := by
            cases e : prefL (nums t) (x : Int) (y : Int)
            · rfl
            · exact absurd g ((pref_take exy hx).1 e)
          simp [hp]
        · rw [if_neg (show ¬ (y : Int) ∈ (nums t).take ((nums t).idxOf (x : Int)) ++ [(x : Int)] by simp only [List.mem_append, List.mem_singleton, not_or]; exact ⟨g, fun e => exy e.symm⟩)]
          have hp := (pref_take exy hx).2 g
          simp [hp, exy]
    rw [e, totI_compl, hin]
    omega
  · rw [if_neg hx]
    have e : ((List.range n).map fun y => prefF x y t) = (List.range n).map fun (y : Nat) => if (-1 : Int) = (y : Int) then (1 : Int) else 0 := by
      refine List.map_congr_left (fun y _ => ?_)
      unfold prefF prefB
      rw [parseL_ok h5, pref_out hx, if_neg (show ¬ (-1 : Int) = (y : Int) by omega)]
      simp
    rw [e, totI_one, if_neg (by omega)]
/-- **Places are preferences.** -/
theorem place_pairs {ps : List Pl} {n x : Nat} (hx : x < n) (hv : ∀ p ∈ ps, validB (nums p.1) 5 = true ∧ validB (nums p.1) (n : Int) = true) : totI ((List.range n).map fun y => pairF ps x y) = (plaL ps n)[x]?.getD 0 := by
  rw [plaL_at ps hx]
  unfold pairF
  rw [totI_wsum]
  exact wsum_congr (fun p hp => place_row (hv p hp).1 (hv p hp).2)
theorem plaF_low {n x : Nat} {t : ByteArray} (h5 : validB (nums t) 5 = true) (hn : validB (nums t) (n : Int) = true) : 0 ≤ plaF n x t := by
  unfold plaF
  rw [parseL_ok h5]
  by_cases hx : (x : Int) ∈ nums t
  · rw [if_pos hx]
    have hi : (nums t).idxOf (x : Int) < (nums t).length := List.idxOf_lt_length_iff.2 hx
    have := vB_short hn
    omega
  · rw [if_neg hx]; exact Int.le_refl _
theorem plaL_low {ps : List Pl} {n x : Nat} (hx : x < n) (hv : ∀ p ∈ ps, validB (nums p.1) 5 = true ∧ validB (nums p.1) (n : Int) = true) (hp : ∀ p ∈ ps, 1 ≤ p.2) : 0 ≤ (plaL ps n)[x]?.getD 0 := by
  rw [plaL_at ps hx]
  exact wsum_nonneg (fun p hp' => plaF_low (hv p hp').1 (hv p hp').2) hp
theorem mem_turn (x y : Int) (zs : List Int) (z : Int) : swapC x y z ∈ turnB x y zs ↔ z ∈ zs := by
  unfold turnB
  constructor
  · intro h
    obtain ⟨u, hu, e⟩ := List.mem_map.1 h
    exact swapC_inj e ▸ hu
  · intro h
    exact List.mem_map.2 ⟨z, h, rfl⟩
theorem plaF_turn {x y : Int} (hx : 0 ≤ x ∧ x ≤ 4) (hy : 0 ≤ y ∧ y ≤ 4) (n k : Nat) {t : ByteArray} (h5 : validB (nums t) 5 = true) : plaF n (swapC x y (k : Int)).toNat (turnT x y t) = plaF n k t := by
  unfold plaF
  rw [parse_turn hx hy h5, Int.toNat_of_nonneg (swapC_low hx.1 hy.1 (Int.natCast_nonneg k)), idxOf_turn]
  by_cases e : (k : Int) ∈ parseL t
  · rw [if_pos e, if_pos ((mem_turn _ _ _ _).2 e)]
  · rw [if_neg e, if_neg (fun g => e ((mem_turn _ _ _ _).1 g))]
theorem plaL_turn {ps : List Pl} {x y : Int} {n : Nat} (hn : n ≤ 5) (hx : 0 ≤ x ∧ x < (n : Int)) (hy : 0 ≤ y ∧ y < (n : Int)) (hv : ∀ p ∈ ps, validB (nums p.1) 5 = true) {k : Nat} (hk : k < n) : (plaL (turnPs x y ps) n)[(swapC x y (k : Int)).toNat]?.getD 0 = (plaL ps n)[k]?.getD 0 := by
  have hs := (swapC_in (z := (k : Int)) hx hy).2 ⟨by omega, by omega⟩
  rw [plaL_at _ (by omega), plaL_at _ hk, wsum_turn]
  exact wsum_congr (fun p hp => plaF_turn (by omega) (by omega) n k (hv p hp))

/-- Whether x is the last one of a full text. -/
def lasF (n x : Nat) (t : ByteArray) : Int := if (parseL t).length = n ∧ (parseL t)[n - 1]?.getD (-1) = (x : Int) then 1 else 0
def lasL (ps : List Pl) (n : Nat) : List Int := (List.range n).map fun x => wsum (lasF n x) ps
theorem lasL_at (ps : List Pl) {n x : Nat} (h : x < n) : (lasL ps n)[x]?.getD 0 = wsum (lasF n x) ps := by simp [lasL, h]
theorem las_sum {ps : List Pl} {n : Nat} (hn : 1 ≤ n) (hv : ∀ p ∈ ps, validB (nums p.1) 5 = true ∧ validB (nums p.1) (n : Int) = true) : totI (lasL ps n) = wsum (fun t => if t.size = n then 1 else 0) ps := by
  unfold lasL
  rw [totI_wsum]
  refine wsum_congr (fun p hp => ?_)
  obtain ⟨h5, hn5⟩ := hv p hp
  have hm := (vB_mem hn5).2.2
  have hl := nums_length p.1
  by_cases e : p.1.size = n
  · rw [if_pos e]
    have h1 := totI_one n ((nums p.1)[n - 1]?.getD (-1))
    have hlt : n - 1 < (nums p.1).length := by omega
    have hg : (nums p.1)[n - 1]?.getD (-1) = (nums p.1)[n - 1] := by simp [hlt]
    have hz := hm _ (List.getElem_mem hlt)
    rw [if_pos (by rw [hg]; exact hz)] at h1
    rw [← h1]
    refine congrArg totI (List.map_congr_left (fun k _ => ?_))
    unfold lasF
    rw [parseL_ok h5]
    by_cases g : (nums p.1)[n - 1]?.getD (-1) = (k : Int)
    · rw [if_pos ⟨by omega, g⟩, if_pos g]
    · rw [if_neg (fun q => g q.2), if_neg g]
  · rw [if_neg e]
    have h1 := totI_one n (-1)
    rw [if_neg (by omega)] at h1
    rw [← h1]
    refine congrArg totI (List.map_congr_left (fun k _ => ?_))
    unfold lasF
    rw [parseL_ok h5, if_neg (fun q => e (by omega)), if_neg (by omega)]
/-- **Nobody is last on a ballot that names this one first.** -/
theorem las_first {ps : List Pl} {n x : Nat} (hn : 2 ≤ n) (hx : x < n) (hp : ∀ p ∈ ps, 1 ≤ p.2) (hv : ∀ p ∈ ps, validB (nums p.1) 5 = true) : (lasL ps n)[x]?.getD 0 + (plurC ps n)[x]?.getD 0 ≤ sumL ps := by
  rw [lasL_at ps hx, plurC, countsL_at _ _ (by rw [noneL_length]; exact hx), ← wsum_add]
  refine wsum_most (fun p hp' => ?_) hp
  have h5 := hv p hp'
  have hd := vB_nodup h5
  unfold lasF oneF
  rw [noneL, firstL_none, parseL_ok h5]
  by_cases a : (nums p.1).length = n ∧ (nums p.1)[n - 1]?.getD (-1) = (x : Int)
  · by_cases b : (nums p.1).head?.getD (-1) = (x : Int)
    · exfalso
      have h0 : 0 < (nums p.1).length := by omega
      have hl : n - 1 < (nums p.1).length := by omega
      have e1 : (nums p.1)[n - 1]?.getD (-1) = (nums p.1)[n - 1] := by simp [hl]
      have e2 : (nums p.1).head?.getD (-1) = (nums p.1)[0] := by rw [List.head?_eq_getElem?]; simp [h0]
      exact List.pairwise_iff_getElem.1 hd 0 (n - 1) h0 hl (by omega) (by omega)
    · rw [if_pos a, if_neg b]; omega
  · rw [if_neg a]; split <;> omega

end Go.Proofs.Ytojfpnjnbpeniab

namespace Go.Proofs.Ytojfpnjnbpeniab

theorem fits_both {ps : List Pl} {n : Int} (h : fitsB ps n = true) : pilesB ps = true ∧ ∀ p ∈ ps, validB (nums p.1) 5 = true ∧ validB (nums p.1) n = true := by
  simp only [fitsB, Bool.and_eq_true, List.all_eq_true] at h
  exact ⟨h.1, fun p hp => ⟨(pilesB_pos h.1).2.2.2.1 p hp, h.2.2 p hp⟩⟩
/-- What a text gives to x, if the place i is worth P i. -/
def ptF (P : Nat → Int) (x : Nat) (t : ByteArray) : Int := if (x : Int) ∈ parseL t then P ((parseL t).idxOf (x : Int)) else 0
def ptL (P : Nat → Int) (ps : List Pl) (n : Nat) : List Int := (List.range n).map fun x => wsum (ptF P x) ps
theorem ptL_length (P : Nat → Int) (ps : List Pl) (n : Nat) : (ptL P ps n).length = n := by simp [ptL]
theorem ptL_at (P : Nat → Int) (ps : List Pl) {n x : Nat} (h : x < n) : (ptL P ps n)[x]?.getD 0 = wsum (ptF P x) ps := by simp [ptL, h]
theorem ptL_nil (P : Nat → Int) (n : Nat) : ptL P [] n = List.replicate n 0 := by
  refine List.ext_getElem (by simp [ptL]) (fun i h1 h2 => ?_)
  simp [ptL, wsum_nil]
theorem ptL_congr {P Q : Nat → Int} {ps : List Pl} {n : Nat} (h : ∀ i, i < 5 → P i = Q i) : ptL P ps n = ptL Q ps n := by
  unfold ptL
  refine List.map_congr_left (fun x _ => wsum_congr (fun p _ => ?_))
  unfold ptF
  by_cases g : (x : Int) ∈ parseL p.1
  · rw [if_pos g, if_pos g]
    exact h _ (Nat.lt_of_lt_of_le (List.idxOf_lt_length_iff.2 g) (parseL_short _))
  · rw [if_neg g, if_neg g]

/-- The counts after the first i names of a ballot. -/
def addTo (P : Nat → Int) (m : Int) (zs : List Int) : Nat → List Int → List Int
  | 0, cs => cs
  | i + 1, cs => (addTo P m zs i cs).set (zs[i]?.getD 0).toNat ((addTo P m zs i cs)[(zs[i]?.getD 0).toNat]?.getD 0 + m * P i)
theorem addTo_zero (P : Nat → Int) (m : Int) (zs cs : List Int) : addTo P m zs 0 cs = cs := rfl
theorem addTo_succ (P : Nat → Int) (m : Int) (zs : List Int) (i : Nat) (cs : List Int) : addTo P m zs (i + 1) cs = (addTo P m zs i cs).set (zs[i]?.getD 0).toNat ((addTo P m zs i cs)[(zs[i]?.getD 0).toNat]?.getD 0 + m * P i) := rfl
theorem addTo_length (P : Nat → Int) (m : Int) (zs : List Int) (i : Nat) (cs : List Int) : (addTo P m zs i cs).length = cs.length := by
  induction i with
  | zero => rfl
  | succ i ih => rw [addTo_succ, List.length_set, ih]
theorem addTo_at {P : Nat → Int} {m : Int} {zs : List Int} (hd : zs.Nodup) (hz : ∀ z ∈ zs, 0 ≤ z) (cs : List Int) {x : Nat} (hx : x < cs.length) : ∀ i, i ≤ zs.length → (addTo P m zs i cs)[x]?.getD 0 = cs[x]?.getD 0 + m * (if (x : Int) ∈ zs ∧ zs.idxOf (x : Int) < i then P (zs.idxOf (x : Int)) else 0)
  | 0, _ => by rw [if_neg (fun h => absurd h.2 (Nat.not_lt_zero _)), Int.mul_zero, Int.add_zero]; rfl
  | i + 1, hi => by
    have ih := addTo_at (P := P) (m := m) hd hz cs hx i (by omega)
    have hlt : i < zs.length := by omega
    have e : zs[i]?.getD 0 = zs[i] := by simp [hlt]
    have hz0 := hz _ (List.getElem_mem hlt)
    have hix : zs.idxOf zs[i] = i := hd.idxOf_getElem i hlt
    rw [addTo_succ, e]
    by_cases g : zs[i].toNat = x
    · have gx : zs[i] = (x : Int) := by omega
      have hin : (x : Int) ∈ zs := by rw [← gx]; exact List.getElem_mem hlt
      rw [gx] at hix
      rw [g, List.getElem?_set_self (by rw [addTo_length]; exact hx)]
      rw [ih, hix, if_neg (fun h => absurd h.2 (Nat.lt_irrefl _)), if_pos ⟨hin, Nat.lt_succ_self _⟩]
      simp
    · rw [List.getElem?_set_ne g, ih]
      by_cases h : (x : Int) ∈ zs
      · have hne : zs.idxOf (x : Int) ≠ i := by
          intro e2
          have h2 := List.getElem_idxOf (List.idxOf_lt_length_iff.2 h)
          simp only [e2] at h2
          rw [h2] at g
          exact g (by simp)
        by_cases h3 : zs.idxOf (x : Int) < i
        · rw [if_pos ⟨h, h3⟩, if_pos ⟨h, by omega⟩]
        · rw [if_neg (fun q => h3 q.2), if_neg (fun q => by have := q.2; omega)]
      · rw [if_neg (fun q => h q.1), if_neg (fun q => h q.1)]
/-- **One pile more.** -/
theorem ptL_next {P : Nat → Int} {ps : List Pl} {n k : Nat} (hk : k < ps.length) (hv : validB (parseL (tAt ps k)) (n : Int) = true) : addTo P (mAt ps k) (parseL (tAt ps k)) (parseL (tAt ps k)).length (ptL P (ps.take k) n) = ptL P (ps.take (k + 1)) n := by
  have hm := (vB_mem hv).2.2
  refine List.ext_getElem (by rw [addTo_length, ptL_length, ptL_length]) (fun x h1 h2 => ?_)
  have hx : x < n := by rwa [ptL_length] at h2
  have e1 := addTo_at (P := P) (m := mAt ps k) (vB_nodup hv) (fun z hz => (hm z hz).1) (ptL P (ps.take k) n) (x := x) (by rw [ptL_length]; exact hx) _ (Nat.le_refl _)
  have e2 := ptL_at P (ps.take (k + 1)) hx
  have et : ps.take (k + 1) = ps.take k ++ [(tAt ps k, mAt ps k)] := by
    have e0 : (tAt ps k, mAt ps k) = ps[k] := by simp [tAt, mAt, hk]
    rw [List.take_succ_eq_append_getElem hk, e0]
  rw [et, wsum_snoc, ← ptL_at P (ps.take k) hx] at e2
  have g1 : (addTo P (mAt ps k) (parseL (tAt ps k)) (parseL (tAt ps k)).length (ptL P (ps.take k) n))[x]?.getD 0 = (addTo P (mAt ps k) (parseL (tAt ps k)) (parseL (tAt ps k)).length (ptL P (ps.take k) n))[x] := by simp [h1]
  have g2 : (ptL P (ps.take (k + 1)) n)[x]?.getD 0 = (ptL P (ps.take (k + 1)) n)[x] := by simp [h2]
  rw [← g1, ← g2, e1, et, e2]
  refine congrArg (fun z => (ptL P (ps.take k) n)[x]?.getD 0 + z) ?_
  unfold ptF
  by_cases h : (x : Int) ∈ parseL (tAt ps k)
  · rw [if_pos h, if_pos ⟨h, List.idxOf_lt_length_iff.2 h⟩, Int.mul_comm]
  · rw [if_neg h, if_neg (fun q => h q.1)]; simp
/-- Names behind the last one that counts change nothing. -/
theorem addTo_stop {P : Nat → Int} {m : Int} {zs : List Int} {d : Nat} (hP : ∀ i, d ≤ i → P i = 0) (cs : List Int) : ∀ i, d ≤ i → addTo P m zs i cs = addTo P m zs d cs
  | 0, h => by rw [Nat.le_zero.1 h]
  | i + 1, h => by
    by_cases e : d = i + 1
    · rw [e]
    · have ih := addTo_stop (P := P) (m := m) (zs := zs) hP cs i (by omega)
      rw [addTo_succ, hP i (by omega), ih, Int.mul_zero, Int.add_zero]
      refine List.ext_getElem (by simp) (fun j h1 h2 => ?_)
      by_cases g : (zs[i]?.getD 0).toNat = j
      · subst g
        simp [h2]
      · rw [List.getElem_set_ne g]
theorem addTo_miss {P : Nat → Int} {m : Int} {zs : List Int} {d : Nat} (hP : ∀ i, i < d → P i = 0) (cs : List Int) : ∀ i, i ≤ d → addTo P m zs i cs = cs
  | 0, _ => rfl
  | i + 1, h => by
    rw [addTo_succ, hP i (by omega), addTo_miss hP cs i (by omega), Int.mul_zero, Int.add_zero]
    refine List.ext_getElem (by simp) (fun j h1 h2 => ?_)
    by_cases g : (zs[i]?.getD 0).toNat = j
    · subst g
      simp [h2]
    · rw [List.getElem_set_ne g]
theorem addTo_bound {P : Nat → Int} {m : Int} {zs : List Int} {cs : List Int} {B : Int} {n : Nat} (hm : 0 ≤ m ∧ m ≤ 99) (hP : ∀ i, i < n → 0 ≤ P i ∧ P i ≤ 5) (hc : ∀ x : Nat, 0 ≤ cs[x]?.getD 0 ∧ cs[x]?.getD 0 ≤ B) : ∀ i, i ≤ n → ∀ x : Nat, 0 ≤ (addTo P m zs i cs)[x]?.getD 0 ∧ (addTo P m zs i cs)[x]?.getD 0 ≤ B + 495 * i
  | 0, _, x => by have := hc x; rw [addTo_zero]; omega
  | i + 1, h, x => by
    have ih := addTo_bound (zs := zs) hm hP hc i (by omega)
    have hp := hP i (by omega)
    have h0 : 0 ≤ m * P i := Int.mul_nonneg hm.1 hp.1
    have h1 : m * P i ≤ 99 * 5 := Int.mul_le_mul hm.2 hp.2 hp.1 (by omega)
    rw [addTo_succ]
    by_cases g : (zs[i]?.getD 0).toNat = x
    · rw [g]
      have := ih x
      by_cases gx : x < (addTo P m zs i cs).length
      · rw [List.getElem?_set_self gx]
        simp only [Option.getD_some]
        omega
      · rw [List.getElem?_eq_none (by rw [List.length_set]; omega)]
        have := hc x
        simp only [Option.getD_none]
        omega
    · rw [List.getElem?_set_ne g]
      have := ih x
      omega
theorem ptF_bound {P : Nat → Int} {n : Nat} (hP : ∀ i, i < n → 0 ≤ P i ∧ P i ≤ 5) (x : Nat) {t : ByteArray} (ht : (parseL t).length ≤ n) : 0 ≤ ptF P x t ∧ ptF P x t ≤ 5 := by
  unfold ptF
  by_cases g : (x : Int) ∈ parseL t
  · rw [if_pos g]; exact hP _ (Nat.lt_of_lt_of_le (List.idxOf_lt_length_iff.2 g) ht)
  · rw [if_neg g]; omega
theorem wsum_bound {f : ByteArray → Int} : ∀ {ps : List Pl}, (∀ p ∈ ps, (0 ≤ f p.1 ∧ f p.1 ≤ 5) ∧ 0 ≤ p.2 ∧ p.2 ≤ 99) → 0 ≤ wsum f ps ∧ wsum f ps ≤ 495 * ps.length
  | [], _ => by rw [wsum_nil]; simp
  | p :: ps, h => by
    have ih := wsum_bound (f := f) (ps := ps) (fun q hq => h q (by simp [hq]))
    obtain ⟨hf, hp⟩ := h p (by simp)
    have h0 : 0 ≤ f p.1 * p.2 := Int.mul_nonneg hf.1 hp.1
    have h1 : f p.1 * p.2 ≤ 5 * 99 := Int.mul_le_mul hf.2 hp.2 hp.1 (by omega)
    rw [wsum_cons, List.length_cons]
    omega
theorem ptL_bound {P : Nat → Int} {n : Nat} (hP : ∀ i, i < n → 0 ≤ P i ∧ P i ≤ 5) {ps : List Pl} (hp : fitsB ps (n : Int) = true) (k x : Nat) : 0 ≤ (ptL P (ps.take k) n)[x]?.getD 0 ∧ (ptL P (ps.take k) n)[x]?.getD 0 ≤ 5940 := by
  obtain ⟨hpv, hv⟩ := fits_both hp
  have h := pilesB_pos hpv
  by_cases hx : x < n
  · rw [ptL_at P _ hx]
    have := wsum_bound (f := ptF P x) (ps := ps.take k) (fun p hm => by
      have hm' := List.mem_of_mem_take hm
      have h2 := hv _ hm'
      have h3 := vB_short h2.2
      have h4 := h.2.1 _ hm'
      have h5 := h.2.2.1 _ hm'
      refine ⟨ptF_bound hP x (by rw [parseL_ok h2.1]; omega), by omega, by omega⟩)
    have hl : (ps.take k).length ≤ 12 := Nat.le_trans (by rw [List.length_take]; exact Nat.min_le_right _ _) h.2.2.2.2
    omega
  · rw [List.getElem?_eq_none (by rw [ptL_length]; omega)]
    simp

/-- Depths, places and last places are points. -/
def depP (d : Nat) (i : Nat) : Int := if i < d then 1 else 0
def plaP (n : Nat) (i : Nat) : Int := (n : Int) - 1 - (i : Int)
def lasP (n : Nat) (i : Nat) : Int := if i = n - 1 then 1 else 0
theorem take_iff {z : Int} : ∀ {zs : List Int} {d : Nat}, z ∈ zs.take d ↔ z ∈ zs ∧ zs.idxOf z < d
  | [], d => by simp
  | a :: t, 0 => by simp
  | a :: t, d + 1 => by
    rw [List.take_succ_cons, List.mem_cons, List.mem_cons, List.idxOf_cons]
    by_cases e : a = z
    · simp [e]
    · rw [beq_eq_false_iff_ne.2 e, cond_false, take_iff]
      constructor
      · rintro (h | ⟨h1, h2⟩)
        · exact absurd h.symm e
        · exact ⟨.inr h1, by omega⟩
      · rintro ⟨h | h, h2⟩
        · exact absurd h.symm e
        · exact .inr ⟨h, by omega⟩
theorem dep_pts (ps : List Pl) (n d : Nat) : depL ps n d = ptL (depP d) ps n := by
  unfold depL ptL
  refine List.map_congr_left (fun x _ => wsum_congr (fun p _ => ?_))
  unfold depF ptF depP
  by_cases h : (x : Int) ∈ (parseL p.1).take d
  · have := take_iff.1 h
    rw [if_pos h, if_pos this.1, if_pos this.2]
  · rw [if_neg h]
    by_cases g : (x : Int) ∈ parseL p.1
    · rw [if_pos g, if_neg (fun q => h (take_iff.2 ⟨g, q⟩))]
    · rw [if_neg g]
theorem pla_pts (ps : List Pl) (n : Nat) : plaL ps n = ptL (plaP n) ps n := rfl
theorem las_pts {ps : List Pl} {n : Nat} (hn : 1 ≤ n) (hv : ∀ p ∈ ps, validB (parseL p.1) (n : Int) = true) : lasL ps n = ptL (lasP n) ps n := by
  unfold lasL ptL
  refine List.map_congr_left (fun x _ => wsum_congr (fun p hp => ?_))
  have h := hv p hp
  have hd := vB_nodup h
  have hs := vB_short h
  unfold lasF ptF lasP
  by_cases g : (parseL p.1).length = n ∧ (parseL p.1)[n - 1]?.getD (-1) = (x : Int)
  · have hlt : n - 1 < (parseL p.1).length := by omega
    have e : (parseL p.1)[n - 1]?.getD (-1) = (parseL p.1)[n - 1] := by simp [hlt]
    have hi := hd.idxOf_getElem (n - 1) hlt
    rw [← e, g.2] at hi
    have hin : (x : Int) ∈ parseL p.1 := by rw [← g.2, e]; exact List.getElem_mem hlt
    rw [if_pos g, if_pos hin, if_pos hi]
  · rw [if_neg g]
    by_cases hin : (x : Int) ∈ parseL p.1
    · rw [if_pos hin, if_neg]
      intro hi
      have hlt := List.idxOf_lt_length_iff.2 hin
      have h2 := List.getElem_idxOf hlt
      simp only [hi] at h2
      rw [hi] at hlt
      exact g ⟨by omega, by simp [hlt, h2]⟩
    · rw [if_neg hin]
theorem depP_bound (d n : Nat) : ∀ i, i < n → 0 ≤ depP d i ∧ depP d i ≤ 5 := fun i _ => by unfold depP; split <;> omega
theorem plaP_bound {n : Nat} (hn : n ≤ 5) : ∀ i, i < n → 0 ≤ plaP n i ∧ plaP n i ≤ 5 := fun i h => by unfold plaP; omega
theorem lasP_bound (n : Nat) : ∀ i, i < n → 0 ≤ lasP n i ∧ lasP n i ≤ 5 := fun i _ => by unfold lasP; split <;> omega

end Go.Proofs.Ytojfpnjnbpeniab

namespace Go.Proofs.Ytojfpnjnbpeniab
open Go.RowKit

attribute [local go_sem] Oper.semAt_some

theorem pile_mem {ps : List Pl} {k : Nat} (h : k < ps.length) : (tAt ps k, mAt ps k) ∈ ps := by
  have : (tAt ps k, mAt ps k) = ps[k] := by simp [tAt, mAt, h]
  rw [this]; exact List.getElem_mem h
theorem fits_no {ps : List Pl} {n : Int} {k : Nat} (hk : k < ps.length) (h : validB (parseL (tAt ps k)) n = false) : fitsB ps n = false := by
  cases hf : fitsB ps n
  · rfl
  · exfalso
    simp only [fitsB, Bool.and_eq_true, List.all_eq_true] at hf
    have hm := pile_mem hk
    have h1 := hf.2.2 _ hm
    have h2 := (pilesB_pos hf.1).2.2.2.1 _ hm
    rw [parseL_ok h2, h1] at h
    cases h
theorem fits_all {ps : List Pl} {n : Int} (h : ∀ i, i < ps.length → validB (parseL (tAt ps i)) n = true) : fitsB ps n = (pilesB ps && inB n 1 5) := by
  unfold fitsB
  cases hp : pilesB ps
  · rfl
  · have e : (ps.all fun p => validB (nums p.1) n) = true := by
      rw [List.all_eq_true]
      intro p hm
      obtain ⟨i, hi, rfl⟩ := List.mem_iff_getElem.1 hm
      have h1 := h i hi
      have h2 := (pilesB_pos hp).2.2.2.1 _ hm
      have e : tAt ps i = (ps[i]).1 := by simp [tAt, hi]
      rw [e, parseL_ok h2] at h1
      exact h1
    rw [e, Bool.and_true]
theorem fits_parts {ps : List Pl} {n : Int} (h : fitsB ps n = true) : pilesB ps = true ∧ 1 ≤ n ∧ n ≤ 5 ∧ ∀ i, i < ps.length → validB (parseL (tAt ps i)) n = true := by
  simp only [fitsB, Bool.and_eq_true, List.all_eq_true] at h
  refine ⟨h.1, ?_, ?_, fun i hi => ?_⟩
  · have := h.2.1; simp [inB] at this; omega
  · have := h.2.1; simp [inB] at this; omega
  · have hm := pile_mem hi
    have h1 := h.2.2 _ hm
    have h2 := (pilesB_pos h.1).2.2.2.1 _ hm
    rw [parseL_ok h2]; exact h1
theorem IsPiles.at_text {w : World} {a : Option Addr} {len cap : Nat} {ps : List Pl} (h : IsPiles w a len cap ps) {k : Nat} (hk : k < len) : ∃ b off, a = some ⟨b, off, none⟩ ∧ b < w.heap.size ∧ w.cell? ⟨b, off + k * 2, none⟩ = some (.string (tAt ps k)) ∧ w.cell? ⟨b, off + k * 2 + 1, none⟩ = some (.int .i64 (mAt ps k)) := by
  obtain ⟨h1, h2, h3, h4⟩ := h
  obtain ⟨b, off, e, hb, hc⟩ := h4 (by omega)
  exact ⟨b, off, e, hb, (hc k hk).1, (hc k hk).2⟩

set_option maxRecDepth 100000 in
set_option maxHeartbeats 2000000 in
/-- **spec.l3Fits**. -/
theorem specFits_as (a : Option Addr) (len cap : Nat) (ps : List Pl) (n : Int) (v : Bool) (w : World) (h : IsPiles w a len cap ps) (hs : Small ps) (hv : fitsB ps n = v) :
    Calls Try.prog 14 #[.slice a len cap, .int .i64 n] w fun e w' => e = .returned (.bool v) ∧ Below w.heap.size w w' := by
  have HI := Lib.hid h
  have HS := Lib.hid hs
  have HV := Lib.hid hv
  have H1 := Lib.hid h.1
  have hlm := h.2.2.1
  clear h hs hv
  obtain ⟨G, hG⟩ : ∃ G, w.heap.size = G := ⟨_, rfl⟩
  go_enter Try.func14, Try.ntmps14
  go_wp2
  go_loopw [5, 6, 7] (fun i _ _ wr => ∃ k : Nat, k ≤ len ∧ i = .int .i64 k ∧ Hid (∀ j, j < k → validB (parseL (tAt ps j)) n = true) ∧ Below G w wr) (fun i _ _ _ => len - (intOf i).toNat)
  case atStart => exact ⟨0, Nat.zero_le _, rfl, fun j hj => by omega, Below.refl _ _⟩
  case round =>
    obtain ⟨k, hk, rfl, hA, hB⟩ := hrel
    have hBw : Below w.heap.size w wr := hG.symm ▸ hB
    by_cases hlt : k < len
    · obtain ⟨b, off, rfl, hb, c0, -⟩ := (HI.out.below hBw).at_text hlt
      obtain ⟨t, ht⟩ : ∃ t, tAt ps k = t := ⟨_, rfl⟩
      obtain ⟨pl, hpl⟩ : ∃ pl, parseL t = pl := ⟨_, rfl⟩
      obtain ⟨u, hu⟩ : ∃ u, validB pl n = u := ⟨_, rfl⟩
      have hst : t.size ≤ 1048600 := by rw [← ht]; exact HS.out k
      have hl5 : pl.length ≤ 5 := by rw [← hpl]; exact parseL_short t
      rw [ht] at c0
      have HT := Lib.hid ht
      have HPL := Lib.hid hpl
      have HU := Lib.hid hu
      clear ht hpl hu hBw
      go_wp2_with fail
      refine (specParse_as t pl _ _ hst HPL.out rfl).mono ?_
      rintro e w3 ⟨a3, c3, rfl, ho3, hb3⟩
      have I3 := Lib.hid (IsInts.of_owned ho3 (by omega))
      have B3 := Lib.hid (hB.trans (hb3.mono (by have := hB.size; rw [hG] at this; exact this)))
      clear ho3 hb3
      go_wp2_with fail
      refine (specValid_any _ _ _ pl n _ I3.out).mono ?_
      rintro e w4 ⟨he, hd⟩
      rw [HU.out] at he
      subst he
      have B4 := Lib.hid (B3.out.trans (hd.below _))
      clear hd
      have HN : Hid (validB (parseL (tAt ps k)) n = u) := by unfold Hid; rw [HT.out, HPL.out, HU.out]
      cases u
      · go_wp2
        go_ret
        exact ⟨ret_bool (by rw [← HV.out]; exact (fits_no (by rw [H1.out]; exact hlt) HN.out).symm), hG.symm ▸ B4.out⟩
      · go_wp2
        go_roundw
        case rel =>
          refine ⟨k + 1, by omega, by go_num, fun j hj => ?_, B4.out⟩
          by_cases e : j = k
          · subst e; exact HN.out
          · exact hA.out j (by omega)
        case measure => simp [intOf]; omega
    · obtain rfl : k = len := by omega
      have HE : Hid (fitsB ps n = (pilesB ps && inB n 1 5)) := fits_all (fun i hi => hA.out i (by rw [← H1.out]; exact hi))
      cases hp : pilesB ps
      · have HP := Lib.hid hp; clear hp
        go_wp2_with fail
        refine (specPiles_as _ _ _ ps false _ (HI.out.below hBw) HS.out HP.out).mono ?_
        rintro e w3 ⟨rfl, hb3⟩
        have B3 := Lib.hid (hB.trans (hb3.mono (by have := hB.size; rw [hG] at this; exact this)))
        clear hb3
        go_wp2
        go_ret
        exact ⟨ret_bool (by rw [← HV.out, HE.out, HP.out]; rfl), hG.symm ▸ B3.out⟩
      · have HP := Lib.hid hp; clear hp
        go_wp2_with fail
        refine (specPiles_as _ _ _ ps true _ (HI.out.below hBw) HS.out HP.out).mono ?_
        rintro e w3 ⟨rfl, hb3⟩
        have B3 := Lib.hid (hB.trans (hb3.mono (by have := hB.size; rw [hG] at this; exact this)))
        clear hb3
        go_wp2_with fail
        refine (l6In_any _ _ _ _).mono ?_
        rintro e w4 ⟨rfl, rfl⟩
        go_wp2
        go_ret
        exact ⟨ret_bool (by rw [← HV.out, HE.out, HP.out]; rfl), hG.symm ▸ B3.out⟩

end Go.Proofs.Ytojfpnjnbpeniab

namespace Go.Proofs.Ytojfpnjnbpeniab

/-- What a way is worth. -/
def wayP (n number : Nat) (i : Nat) : Int := if number < 6 then depP number i else if number = 6 then plaP n i else lasP n i
theorem wayP_bound {n number : Nat} (hn : n ≤ 5) : ∀ i, i < n → 0 ≤ wayP n number i ∧ wayP n number i ≤ 5 := by
  intro i hi
  unfold wayP
  split
  · exact depP_bound _ _ i hi
  · split
    · exact plaP_bound hn i hi
    · exact lasP_bound _ i hi
/-- What is told of a way. -/
def ptR (number : Nat) (ps : List Pl) (n : Int) : List Int := if fitsB ps n = true then ptL (wayP n.toNat number) ps n.toNat else []
theorem ptR_yes {number n : Nat} {ps : List Pl} (h : fitsB ps (n : Int) = true) : ptR number ps (n : Int) = ptL (wayP n number) ps n := by rw [ptR, if_pos h, Int.toNat_natCast]
theorem ptR_no {number : Nat} {n : Int} {ps : List Pl} (h : fitsB ps n = false) : ptR number ps n = [] := by rw [ptR, if_neg (by rw [h]; decide)]

/-- What DepthCounts tells. -/
def depOk (ps : List Pl) (n d : Int) : Bool := fitsB ps n && inB d 0 5
def depR (ps : List Pl) (n d : Int) : List Int := if depOk ps n d = true then depL ps n.toNat d.toNat else []
theorem depR_no {ps : List Pl} {n d : Int} (h : depOk ps n d = false) : depR ps n d = [] := by rw [depR, if_neg (by rw [h]; decide)]
theorem depOk_out {ps : List Pl} {n d : Int} (h : d < 0 ∨ 5 < d) : depOk ps n d = false := by
  have : inB d 0 5 = false := by unfold inB; exact decide_eq_false (by omega)
  rw [depOk, this, Bool.and_false]
theorem depOk_in {ps : List Pl} {n d : Int} (h0 : 0 ≤ d) (h5 : d ≤ 5) : depOk ps n d = fitsB ps n := by
  have : inB d 0 5 = true := by unfold inB; exact decide_eq_true (by omega)
  rw [depOk, this, Bool.and_true]
theorem depR_in {ps : List Pl} {n : Int} {d : Nat} (h5 : d ≤ 5) : depR ps n (d : Int) = ptR d ps n := by
  rw [depR, depOk_in (by omega) (by omega), ptR]
  have : wayP n.toNat d = depP d := by funext i; unfold wayP; rw [if_pos (by omega)]
  rw [this, ← dep_pts, Int.toNat_natCast]
/-- What PlaceCounts and LastCounts tell. -/
def plaR (ps : List Pl) (n : Int) : List Int := if fitsB ps n = true then plaL ps n.toNat else []
def lasR (ps : List Pl) (n : Int) : List Int := if fitsB ps n = true then lasL ps n.toNat else []
theorem plaR_pts (ps : List Pl) (n : Int) : plaR ps n = ptR 6 ps n := by
  have : wayP n.toNat 6 = plaP n.toNat := by funext i; unfold wayP; rw [if_neg (by omega), if_pos rfl]
  rw [plaR, ptR, this, pla_pts]
theorem lasR_pts (ps : List Pl) (n : Int) : lasR ps n = ptR 7 ps n := by
  have : wayP n.toNat 7 = lasP n.toNat := by funext i; unfold wayP; rw [if_neg (by omega), if_neg (by omega)]
  rw [lasR, ptR, this]
  cases hf : fitsB ps n
  · rfl
  · obtain ⟨hp, hn1, hn5, -⟩ := fits_parts hf
    rw [if_pos rfl, if_pos rfl, las_pts (by omega)]
    intro p hm
    have := (fits_both hf).2 p hm
    rw [parseL_ok this.1, Int.toNat_of_nonneg (by omega)]
    exact this.2
end Go.Proofs.Ytojfpnjnbpeniab

namespace Go.Proofs.Ytojfpnjnbpeniab

theorem depR_short {ps : List Pl} {n d : Int} : (depR ps n d).length ≤ 5 := by
  unfold depR
  by_cases h : depOk ps n d = true
  · rw [if_pos h, depL_length]
    have hf : fitsB ps n = true := by unfold depOk at h; simp only [Bool.and_eq_true] at h; exact h.1
    have := fits_parts hf
    omega
  · rw [if_neg h]; simp
theorem plaR_short {ps : List Pl} {n : Int} : (plaR ps n).length ≤ 5 := by
  unfold plaR
  by_cases h : fitsB ps n = true
  · rw [if_pos h, plaL_length]; have := fits_parts h; omega
  · rw [if_neg h]; simp
theorem lasR_short {ps : List Pl} {n : Int} : (lasR ps n).length ≤ 5 := by
  unfold lasR
  by_cases h : fitsB ps n = true
  · rw [if_pos h]; have := fits_parts h; simp [lasL]; omega
  · rw [if_neg h]; simp

end Go.Proofs.Ytojfpnjnbpeniab

namespace Go.Proofs.Ytojfpnjnbpeniab
open Go.RowKit

attribute [local go_sem] Oper.semAt_some

/-- A point, if something is true. -/
def oneI (b : Bool) : Int := if b = true then 1 else 0
theorem onePoint_any (b : Bool) (w : World) : Calls Try.prog 32 #[.bool b] w fun e w' => e = .returned (.int .i64 (oneI b)) ∧ w = w' := by
  cases b
  · go_enter Try.func32, Try.ntmps32
    go_wp2
    go_ret
    exact ⟨rfl, rfl⟩
  · go_enter Try.func32, Try.ntmps32
    go_wp2
    go_ret
    exact ⟨rfl, rfl⟩
theorem wayPlace_any (i n : Nat) (w : World) (hi : i < n) (hn : n ≤ 5) : Calls Try.prog 30 #[.int .i64 (i : Int), .int .i64 (n : Int)] w fun e w' => e = .returned (.int .i64 ((n : Int) - 1 - (i : Int))) ∧ w = w' := by
  go_enter Try.func30, Try.ntmps30
  go_wp2
  go_ret
  exact ⟨rfl, rfl⟩
theorem wayLast_any (i n : Nat) (w : World) (hi : i < n) (hn : n ≤ 5) : Calls Try.prog 31 #[.int .i64 (i : Int), .int .i64 (n : Int)] w fun e w' => e = .returned (.int .i64 (oneI (decide (i = n - 1)))) ∧ w = w' := by
  obtain ⟨v, hv⟩ : ∃ v, ((i : Int) == (n : Int) - 1) = v := ⟨_, rfl⟩
  have HV : Hid (v = decide (i = n - 1)) := by
    rw [Hid, ← hv]
    by_cases e : i = n - 1
    · rw [decide_eq_true e]; exact beq_iff_eq.2 (by omega)
    · rw [decide_eq_false e]; exact beq_eq_false_iff_ne.2 (by omega)
  go_enter Try.func31, Try.ntmps31
  go_wp2_with fail
  refine (onePoint_any v _).mono ?_
  rintro e w1 ⟨rfl, rfl⟩
  go_wp2
  go_ret
  exact ⟨ret_int (by rw [HV.out]), rfl⟩
theorem wayDepth_any (g d i n : Nat) (w : World) (hc : w.cell? ⟨g, 0, none⟩ = some (.int .i64 (d : Int))) : Calls Try.prog 33 #[.int .i64 (i : Int), .int .i64 (n : Int), .pointer (some ⟨g, 0, none⟩)] w fun e w' => e = .returned (.int .i64 (oneI (decide (i < d)))) ∧ w = w' := by
  obtain ⟨v, hv⟩ : ∃ v, decide (i < d) = v := ⟨_, rfl⟩
  have HV : Hid (v = decide (i < d)) := hv.symm
  go_enter Try.func33, Try.ntmps33
  go_wp2_with fail
  refine (onePoint_any v _).mono ?_
  rintro e w1 ⟨rfl, rfl⟩
  go_wp2
  go_ret
  exact ⟨ret_int (by rw [HV.out]), rfl⟩

end Go.Proofs.Ytojfpnjnbpeniab
