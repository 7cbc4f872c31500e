/-
  The plurality, as lists: the winner, a ballot more, two candidates exchanged, the margin. Of no memory.
  Piles of a contest, turned, are those of a contest. Of no memory.
  turned: two candidates exchanged.
  Piles that are turned are the turned piles in another order. Of no memory.
-/
import Derived.Test.YtafnmongglhlaaaGreatGrp12
import Derived.Test.YtafnmongglhlaaaGreatGrp16
import Derived.Test.YtafnmongglhlaaaGreatGrp2
namespace Go.Proofs.YtafnmongglhlaaaGreat

theorem parse_turn {x y : Int} (hx : 0 ≤ x ∧ x ≤ 4) (hy : 0 ≤ y ∧ y ≤ 4) {s : ByteArray} (h : validB (nums s) 5 = true) : parseL (turnT x y s) = turnB x y (parseL s) := by
  unfold turnT
  rw [parseL_ok h, txtB_parse (turnB_valid hx hy h)]
theorem firstL_turn {x y : Int} (hx : 0 ≤ x) (hy : 0 ≤ y) {zs : List Int} {L L' : List Bool} (h : ∀ z ∈ zs, L'[(swapC x y z).toNat]?.getD false = L[z.toNat]?.getD false) : firstL (turnB x y zs) L' = swapC x y (firstL zs L) := by
  unfold turnB
  induction zs with
  | nil =>
    have : swapC x y (-1) = -1 := by unfold swapC; rw [if_neg (by omega), if_neg (by omega)]
    rw [List.map_nil, firstL, firstL, this]
  | cons z t ih =>
    rw [List.map_cons, firstL, firstL, h z (by simp)]
    split
    · exact ih (fun u hu => h u (by simp [hu]))
    · rfl
theorem swapC_low {x y z : Int} (hx : 0 ≤ x) (hy : 0 ≤ y) (hz : 0 ≤ z) : 0 ≤ swapC x y z := by
  unfold swapC
  split
  · exact hy
  · split
    · exact hx
    · exact hz
theorem swapC_high {x y z n : Int} (hx : x < n) (hy : y < n) (hz : z < n) : swapC x y z < n := by
  unfold swapC
  split
  · exact hy
  · split
    · exact hx
    · exact hz
/-- The counts of turned piles are those of the other candidate. -/
theorem counts_turn {ps : List Pl} {L L' : List Bool} {x y : Int} (hx : 0 ≤ x ∧ x ≤ 4) (hy : 0 ≤ y ∧ y ≤ 4) (hv : ∀ p ∈ ps, validB (nums p.1) 5 = true) (hL : ∀ z : Int, 0 ≤ z → z ≤ 4 → L'[(swapC x y z).toNat]?.getD false = L[z.toNat]?.getD false) {k : Nat} (hk : k < L.length) (hk' : (swapC x y (k : Int)).toNat < L'.length) :
    (countsL (turnPs x y ps) L')[(swapC x y (k : Int)).toNat]?.getD 0 = (countsL ps L)[k]?.getD 0 := by
  rw [countsL_at _ _ hk', countsL_at _ _ hk, wsum_turn]
  refine wsum_congr (fun p hp => ?_)
  have h5 := hv p hp
  have hm := vB_mem h5
  have e1 : firstL (parseL (turnT x y p.1)) L' = swapC x y (firstL (parseL p.1) L) := by
    rw [parse_turn hx hy h5]
    refine firstL_turn hx.1 hy.1 (fun z hz => ?_)
    rw [parseL_ok h5] at hz
    have := hm.2.2 z hz
    exact hL z this.1 (by omega)
  have e2 := Int.toNat_of_nonneg (swapC_low hx.1 hy.1 (Int.natCast_nonneg k))
  unfold oneF
  rw [e1, e2]
  by_cases e : firstL (parseL p.1) L = (k : Int)
  · rw [if_pos e, if_pos (by rw [e])]
  · rw [if_neg e, if_neg (fun g => e (swapC_inj g))]

/-- Nobody has left. -/
def noneL (n : Nat) : List Bool := List.replicate n false
def allL (n : Nat) : List Bool := List.replicate n true
theorem noneL_at (n k : Nat) : (noneL n)[k]?.getD false = false := by
  unfold noneL; rw [List.getElem?_replicate]; split <;> rfl
theorem allL_at {n k : Nat} (h : k < n) : (allL n)[k]?.getD false = true := by
  unfold allL; rw [List.getElem?_replicate, if_pos h]; rfl
theorem noneL_length (n : Nat) : (noneL n).length = n := by simp [noneL]
def plurC (ps : List Pl) (n : Nat) : List Int := countsL ps (noneL n)
theorem plurC_length (ps : List Pl) (n : Nat) : (plurC ps n).length = n := by rw [plurC, countsL_length, noneL_length]
theorem plurC_low {ps : List Pl} (hp : ∀ p ∈ ps, 1 ≤ p.2) {n k : Nat} (hk : k < n) : 0 ≤ (plurC ps n)[k]?.getD 0 := counts_low (by rw [noneL_length]; exact hk) hp
/-- The winner. -/
def winL (ps : List Pl) (lots : List Int) : Int := pickL lots (mostL (plurC ps lots.length) (allL lots.length))
theorem win_is {ps : List Pl} {lots : List Int} (hl : lotsB lots = true) (hp : ∀ p ∈ ps, 1 ≤ p.2) : IsWin (plurC ps lots.length) (allL lots.length) lots (winL ps lots) := by
  have hn := lotsB_len hl
  refine win_pick hl (plurC_length _ _) (fun i hi => ?_) ⟨0, ?_, allL_at (by omega)⟩
  · rw [plurC_length] at hi
    exact plurC_low hp hi
  · rw [plurC_length]; omega
theorem winL_range {ps : List Pl} {lots : List Int} (hl : lotsB lots = true) (hp : ∀ p ∈ ps, 1 ≤ p.2) : 0 ≤ winL ps lots ∧ winL ps lots < (lots.length : Int) := (vB_mem hl).2.2 _ (win_is hl hp).1

/-- A ballot for one candidate alone. -/
theorem plurC_put {ps : List Pl} {w : Int} {n : Nat} (hw : 0 ≤ w ∧ w < 5) {i : Nat} (hi : i < n) : (plurC (putL ps (txtB [w]) 1) n)[i]?.getD 0 = (plurC ps n)[i]?.getD 0 + if w = (i : Int) then 1 else 0 := by
  unfold plurC
  rw [counts_put _ _ _ (by rw [noneL_length]; exact hi)]
  have hv : validB [w] 5 = true := vB_of (by omega) (by omega) (by simp) (fun z hz => by simp at hz; omega)
  have hf : firstL (parseL (txtB [w])) (noneL n) = w := by
    rw [txtB_parse hv, firstL, if_neg (by rw [noneL_at]; simp)]
  unfold oneF
  rw [hf, Int.mul_one]
/-- **A ballot for the winner helps.** -/
theorem plur_more {ps : List Pl} {lots : List Int} (hl : lotsB lots = true) (hp : ∀ p ∈ ps, 1 ≤ p.2) : winL (putL ps (txtB [winL ps lots]) 1) lots = winL ps lots := by
  have h0 := win_is hl hp
  have hr := winL_range hl hp
  have hn := lotsB_len hl
  have hm := (vB_mem hl).2.2
  generalize winL ps lots = w at h0 hr
  have h1 := win_is (ps := putL ps (txtB [w]) 1) hl (pos_put hp (by omega))
  refine win_one h1 ⟨h0.1, h0.2.1, fun i hi hs => ?_⟩
  have hi' := hm i hi
  have a := h0.2.2 i hi hs
  rw [plurC_put (by omega) (by omega), plurC_put (by omega) (by omega)]
  rw [if_pos (show w = (w.toNat : Int) by omega)]
  by_cases e : w = (i.toNat : Int)
  · have e2 : i = w := by omega
    subst e2
    exact .inr ⟨by rw [if_pos e], Nat.le_refl _⟩
  · rw [if_neg e]
    exact .inl (by omega)
/-- **Candidates are treated alike.** -/
theorem plur_turn {ps : List Pl} {lots : List Int} (hl : lotsB lots = true) (hps : pilesB ps = true) {x y : Int} (hx : 0 ≤ x ∧ x < (lots.length : Int)) (hy : 0 ≤ y ∧ y < (lots.length : Int)) : winL (turnPs x y ps) (turnB x y lots) = swapC x y (winL ps lots) := by
  have hn := lotsB_len hl
  have hm := (vB_mem hl).2.2
  have hpp := pilesB_pos hps
  have hlen : (turnB x y lots).length = lots.length := by simp [turnB]
  have hl' : lotsB (turnB x y lots) = true := by
    unfold lotsB
    refine vB_of (by omega) (by omega) ?_ (fun z hz => ?_)
    · unfold turnB List.Nodup
      rw [List.pairwise_map]
      exact List.Pairwise.imp (fun {a b} hab e => hab (swapC_inj e)) (vB_nodup hl)
    · obtain ⟨u, hu, rfl⟩ := List.mem_map.1 hz
      have := hm u hu
      rw [hlen]
      exact ⟨swapC_low hx.1 hy.1 this.1, swapC_high hx.2 hy.2 this.2⟩
  have h1 := win_is hl' (ps := turnPs x y ps) (turnPs_pos hpp.2.1)
  rw [hlen] at h1
  refine win_one h1 (win_turn (win_is hl hpp.2.1) (fun z hz => ?_) (fun z hz => ?_))
  · have hz' := hm z hz
    have hz2 := swapC_high hx.2 hy.2 hz'.2
    have hz3 := swapC_low hx.1 hy.1 hz'.1
    have hc := counts_turn (L := noneL lots.length) (L' := noneL lots.length) (k := z.toNat) (show 0 ≤ x ∧ x ≤ 4 by omega) (show 0 ≤ y ∧ y ≤ 4 by omega) hpp.2.2.2.1 (fun u _ _ => by rw [noneL_at, noneL_at]) (by rw [noneL_length]; omega) (by rw [noneL_length, Int.toNat_of_nonneg hz'.1]; omega)
    rw [Int.toNat_of_nonneg hz'.1] at hc
    exact hc
  · have hz' := hm z hz
    have hz2 := swapC_high hx.2 hy.2 hz'.2
    have hz3 := swapC_low hx.1 hy.1 hz'.1
    rw [allL_at (by omega), allL_at (by omega)]

/-- The greatest count of the first k others, or 0. -/
def nextTo (c : List Int) (w : Int) (k : Nat) : Int := (List.range k).foldl (fun (b : Int) (i : Nat) => if (i : Int) ≠ w then max b (c[i]?.getD 0) else b) 0
theorem nextTo_zero (c : List Int) (w : Int) : nextTo c w 0 = 0 := rfl
theorem nextTo_succ (c : List Int) (w : Int) (k : Nat) : nextTo c w (k + 1) = if (k : Int) ≠ w then max (nextTo c w k) (c[k]?.getD 0) else nextTo c w k := by
  simp [nextTo, List.range_succ]
theorem nextTo_low (c : List Int) (w : Int) (k : Nat) : 0 ≤ nextTo c w k := by
  induction k with
  | zero => exact Int.le_refl _
  | succ k ih => rw [nextTo_succ]; split <;> omega
theorem nextTo_ge {c : List Int} {w : Int} {k i : Nat} (h : i < k) (hw : (i : Int) ≠ w) : c[i]?.getD 0 ≤ nextTo c w k := by
  induction k with
  | zero => omega
  | succ k ih =>
    rw [nextTo_succ]
    by_cases e : i = k
    · subst e; rw [if_pos hw]; omega
    · have := ih (by omega)
      split <;> omega
theorem nextTo_hit (c : List Int) (w : Int) (k : Nat) : nextTo c w k = 0 ∨ ∃ i, i < k ∧ (i : Int) ≠ w ∧ c[i]?.getD 0 = nextTo c w k := by
  induction k with
  | zero => exact .inl rfl
  | succ k ih =>
    rw [nextTo_succ]
    by_cases hw : (k : Int) ≠ w
    · rw [if_pos hw]
      rcases ih with ih | ⟨i, hi, h1, h2⟩
      · by_cases g : c[k]?.getD 0 ≤ 0
        · left; omega
        · right; exact ⟨k, by omega, hw, by omega⟩
      · by_cases g : c[k]?.getD 0 ≤ nextTo c w k
        · right; exact ⟨i, by omega, h1, by omega⟩
        · right; exact ⟨k, by omega, hw, by omega⟩
    · rw [if_neg hw]
      rcases ih with ih | ⟨i, hi, h1, h2⟩
      · exact .inl ih
      · exact .inr ⟨i, by omega, h1, h2⟩
/-- The margin. -/
def marginL (ps : List Pl) (lots : List Int) : Int := (plurC ps lots.length)[(winL ps lots).toNat]?.getD 0 - nextTo (plurC ps lots.length) (winL ps lots) lots.length
theorem nextTo_congr {c c' : List Int} {w : Int} (k : Nat) (h : ∀ i, i < k → (i : Int) ≠ w → c'[i]?.getD 0 = c[i]?.getD 0) : nextTo c' w k = nextTo c w k := by
  induction k with
  | zero => rfl
  | succ k ih =>
    rw [nextTo_succ, nextTo_succ, ih (fun i hi => h i (by omega))]
    by_cases e : (k : Int) ≠ w
    · rw [if_pos e, if_pos e, h k (by omega) e]
    · rw [if_neg e, if_neg e]
theorem margin_more {ps : List Pl} {lots : List Int} (hl : lotsB lots = true) (hp : ∀ p ∈ ps, 1 ≤ p.2) : marginL (putL ps (txtB [winL ps lots]) 1) lots = marginL ps lots + 1 := by
  have hr := winL_range hl hp
  have hn := lotsB_len hl
  unfold marginL
  rw [plur_more hl hp]
  generalize winL ps lots = w at hr
  rw [plurC_put (by omega) (by omega), if_pos (by omega), nextTo_congr (c := plurC ps lots.length) lots.length (fun i hi hw => by rw [plurC_put (by omega) hi, if_neg (by omega)]; omega)]
  omega
/-- **A margin is how many ballots are more.** -/
theorem margin_is {ps : List Pl} {lots : List Int} (hl : lotsB lots = true) (hp : ∀ p ∈ ps, 1 ≤ p.2) :
    0 ≤ marginL ps lots ∧ (∀ i : Nat, i < lots.length → (i : Int) ≠ winL ps lots → marginL ps lots ≤ (plurC ps lots.length)[(winL ps lots).toNat]?.getD 0 - (plurC ps lots.length)[i]?.getD 0) ∧ ((lots.length = 1 ∧ marginL ps lots = (plurC ps lots.length)[(winL ps lots).toNat]?.getD 0) ∨ ∃ i : Nat, i < lots.length ∧ (i : Int) ≠ winL ps lots ∧ (plurC ps lots.length)[(winL ps lots).toNat]?.getD 0 - (plurC ps lots.length)[i]?.getD 0 = marginL ps lots) := by
  have h0 := win_is hl hp
  have hr := winL_range hl hp
  have hn := lotsB_len hl
  unfold marginL
  generalize winL ps lots = w at h0 hr
  have hw0 := plurC_low hp (n := lots.length) (k := w.toNat) (by omega)
  have hh := nextTo_hit (plurC ps lots.length) w lots.length
  have hlow := nextTo_low (plurC ps lots.length) w lots.length
  refine ⟨?_, fun i hi hw => ?_, ?_⟩
  · rcases hh with hh | ⟨i, hi, h1, h2⟩
    · omega
    · have := h0.2.2 (i : Int) (lots_mem hl hi) (allL_at (by omega))
      rw [Int.toNat_natCast] at this
      omega
  · have := nextTo_ge (c := plurC ps lots.length) hi hw
    omega
  · rcases hh with hh | ⟨i, hi, h1, h2⟩
    · by_cases e : lots.length = 1
      · exact .inl ⟨e, by omega⟩
      · right
        obtain ⟨i, hi, hw⟩ : ∃ i : Nat, i < lots.length ∧ (i : Int) ≠ w := by
          by_cases e0 : w = 0
          · exact ⟨1, by omega, by omega⟩
          · exact ⟨0, by omega, by omega⟩
        have a := plurC_low hp (n := lots.length) (k := i) hi
        have b := nextTo_ge (c := plurC ps lots.length) hi hw
        exact ⟨i, hi, hw, by omega⟩
    · exact .inr ⟨i, hi, h1, by omega⟩

end Go.Proofs.YtafnmongglhlaaaGreat

namespace Go.Proofs.YtafnmongglhlaaaGreat
open Go.RowKit

theorem swap_in {x y z : Int} {n : Int} (hx : 0 ≤ x ∧ x < n) (hy : 0 ≤ y ∧ y < n) (hz : 0 ≤ z ∧ z < n) : 0 ≤ swapC x y z ∧ swapC x y z < n := by
  unfold swapC
  split
  · omega
  · split <;> omega
theorem validB_five {zs : List Int} {n : Int} (h5 : validB zs 5 = true) (hn : 1 ≤ n ∧ n ≤ 5) (h : ∀ z ∈ zs, 0 ≤ z ∧ z < n) : validB zs n = true := by
  rw [validB_in hn.1 hn.2]
  rw [validB_in (by omega) (by omega)] at h5
  unfold goodL goodTo at h5 ⊢
  rw [List.all_eq_true] at h5 ⊢
  intro i hi
  have h1 := h5 i hi
  rw [Bool.and_eq_true] at h1 ⊢
  refine ⟨?_, h1.2⟩
  have hi' := List.mem_range.1 hi
  have hm : zs[i]?.getD 0 ∈ zs := by rw [List.getElem?_eq_getElem hi']; exact List.getElem_mem hi'
  have := h _ hm
  simp [inB]; omega
theorem fits_turn {ps : List Pl} {n x y : Nat} (hf : fitsB ps (n : Int) = true) (hx : x < n) (hy : y < n) : fitsB (turnPs (x : Int) (y : Int) ps) (n : Int) = true := by
  obtain ⟨hp, h1, h5, hv⟩ := fits_parts hf
  have hx4 : 0 ≤ (x : Int) ∧ (x : Int) ≤ 4 := by omega
  have hy4 : 0 ≤ (y : Int) ∧ (y : Int) ≤ 4 := by omega
  have hp2 := turn_valid hx4 hy4 hp
  simp only [fitsB, Bool.and_eq_true, List.all_eq_true]
  refine ⟨hp2, by simp [inB]; omega, fun q hq => ?_⟩
  refine validB_five ((pilesB_pos hp2).2.2.2.1 q hq) ⟨by omega, by omega⟩ (fun z hz => ?_)
  rcases merge_texts q hq with ⟨p, hp', _⟩ | ⟨p, hp', e⟩
  · cases hp'
  · obtain ⟨p0, hp0, rfl⟩ := List.mem_map.1 hp'
    obtain ⟨i, hi, rfl⟩ := List.mem_iff_getElem.1 hp0
    have hvi := hv i hi
    have e0 : tAt ps i = (ps[i]).1 := by simp [tAt, hi]
    rw [e0] at hvi
    have h5v := (pilesB_pos hp).2.2.2.1 _ hp0
    rw [← e] at hz
    have hz2 : z ∈ turnB (x : Int) (y : Int) (parseL (ps[i]).1) := by
      have e3 := parse_turn hx4 hy4 h5v
      have e4 := parseL_ok (turnT_valid hx4 hy4 h5v)
      rw [← e3, e4]; exact hz
    obtain ⟨u, hu, rfl⟩ := List.mem_map.1 hz2
    have := (validB_mem hvi).2.2 u hu
    exact swap_in ⟨by omega, by omega⟩ ⟨by omega, by omega⟩ this

end Go.Proofs.YtafnmongglhlaaaGreat

namespace Go.Proofs.YtafnmongglhlaaaGreat
open Go.RowKit

set_option maxHeartbeats 1000000 in
/-- **turned**. -/
theorem turned_any (k x y : Int) (w : World) : Calls Tryz.prog 27 #[.int .i64 k, .int .i64 x, .int .i64 y] w fun e w' => e = .returned (.int .i64 (swapC x y k)) ∧ w = w' := by
  by_cases h1 : k = x
  · have e1 : (k == x) = true := by rw [h1]; simp
    have e2 : Hid (swapC x y k = y) := by unfold Hid swapC; rw [if_pos h1]
    clear h1
    go_enter Tryz.func27, Tryz.ntmps27
    go_wp2
    go_ret
    exact ⟨ret_int e2.out.symm, rfl⟩
  · have e1 : (k == x) = false := beq_eq_false_iff_ne.2 h1
    by_cases h2 : k = y
    · have e3 : (k == y) = true := by rw [h2]; simp
      have e2 : Hid (swapC x y k = x) := by unfold Hid swapC; rw [if_neg h1, if_pos h2]
      clear h1 h2
      go_enter Tryz.func27, Tryz.ntmps27
      go_wp2
      go_ret
      exact ⟨ret_int e2.out.symm, rfl⟩
    · have e3 : (k == y) = false := beq_eq_false_iff_ne.2 h2
      have e2 : Hid (swapC x y k = k) := by unfold Hid swapC; rw [if_neg h1, if_neg h2]
      clear h1 h2
      go_enter Tryz.func27, Tryz.ntmps27
      go_wp2
      go_ret
      exact ⟨ret_int e2.out.symm, rfl⟩


end Go.Proofs.YtafnmongglhlaaaGreat

namespace Go.Proofs.YtafnmongglhlaaaGreat

theorem put_perm {t : ByteArray} {m : Int} : ∀ {ps : List Pl}, (∀ p ∈ ps, p.1 ≠ t) → (putL ps t m).Perm ((t, m) :: ps)
  | [], _ => List.Perm.refl _
  | p :: ps, h => by
    unfold putL
    by_cases h1 : tl p.1 t = true
    · rw [if_pos h1]
      exact ((put_perm (fun q hq => h q (by simp [hq]))).cons p).trans (List.Perm.swap _ _ _)
    · rw [if_neg h1, if_neg (h p (by simp))]
theorem merge_perm : ∀ {b a : List Pl}, (b.map fun p => p.1).Nodup → (∀ p ∈ b, ∀ q ∈ a, q.1 ≠ p.1) → (mergeL a b).Perm (a ++ b)
  | [], a, _, _ => by rw [List.append_nil]; exact List.Perm.refl _
  | p :: b, a, hn, h => by
    rw [List.map_cons, List.nodup_cons] at hn
    show (mergeL (putL a p.1 p.2) b).Perm _
    have hp := put_perm (t := p.1) (m := p.2) (ps := a) (h p (by simp))
    have h2 : ∀ r ∈ b, ∀ q ∈ putL a p.1 p.2, q.1 ≠ r.1 := fun r hr q hq => by
      rcases List.mem_cons.1 (hp.subset hq) with e | e
      · rw [e]
        intro e2
        exact hn.1 (List.mem_map.2 ⟨r, hr, e2.symm⟩)
      · exact h r (by simp [hr]) q e
    refine (merge_perm hn.2 h2).trans ((hp.append_right b).trans ?_)
    exact (List.perm_middle (a := p) (l₁ := a) (l₂ := b)).symm
theorem turned_perm {x y : Int} (hx : 0 ≤ x ∧ x ≤ 4) (hy : 0 ≤ y ∧ y ≤ 4) {ps : List Pl} (h : pilesB ps = true) : (turnPs x y ps).Perm (ps.map fun p => (turnT x y p.1, p.2)) := by
  obtain ⟨h1, _, _, h4, _⟩ := pilesB_pos h
  have hn : ((ps.map fun p => (turnT x y p.1, p.2)).map fun p => p.1).Nodup := by
    rw [List.map_map]
    unfold List.Nodup
    rw [List.pairwise_map]
    refine List.Pairwise.imp_of_mem (fun {p q} hp hq hpq => ?_) h1
    intro e
    have e : turnT x y p.1 = turnT x y q.1 := e
    have := congrArg (turnT x y) e
    rw [turnT_twice hx hy (h4 p hp), turnT_twice hx hy (h4 q hq)] at this
    exact tl_ne hpq this
  exact merge_perm hn (fun _ _ q hq => by cases hq)

end Go.Proofs.YtafnmongglhlaaaGreat
