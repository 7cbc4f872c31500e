/-
  The promises on divisors, over lists. Of no memory.
-/
import Derived.Test.YtgcocdacofpglaaSeatS
import Derived.Test.YtgcocdacofpglaaSeatV
namespace Go.Proofs.Ytgcocdacofpglaa
open Go.RowKit

theorem totals_of2 {vs : List Int} {m : Int} {lots : List Int} {k : Nat} (hm : methB m = true) (hl : lotsB lots = true) (hn : lots.length = vs.length) (hk : k ≤ 20) : toB (seatsL vs m lots k) 20 vs.length = true := by
  obtain ⟨h1, h2, -⟩ := (giveB_iff _ _).1 (seats_are hm hl hn k hk).1
  rw [h2] at h1; exact h1
section
variable {vs lots : List Int} {m : Int} {n : Nat}
/-- **All seats are given** (promise 82). -/
theorem p82_check (hv : voteB vs = true) (hm : methB m = true) (hl : lotsB lots = true) (hn : lots.length = vs.length) (h20 : n ≤ 20) : checkB vs (seatsL vs m lots n) m = true := by
  have h1 := (seats_are (vs := vs) hm hl hn n h20).1
  rw [checkB_yes ((okC_iff _ _ _).2 ⟨hv, h1, hm⟩)]
  exact (check_is hl hn).2 (seats_check hv hm hl hn h20)
theorem p82_each (hv : voteB vs = true) (hm : methB m = true) (hl : lotsB lots = true) (hn : lots.length = vs.length) (h20 : n ≤ 20) {i : Nat} (hi : i < vs.length) : 0 ≤ (seatsL vs m lots n)[i]?.getD 0 ∧ (seatsL vs m lots n)[i]?.getD 0 ≤ 20 ∧ (vs[i]?.getD 0 = 0 → (seatsL vs m lots n)[i]?.getD 0 = 0) := by
  have h := toB_at (totals_of2 hm hl hn h20) hi
  exact ⟨h.1, h.2, fun h0 => seats_none hv hm hl hn h20 hi h0⟩
/-- **A further seat takes none away** (promise 83). -/
theorem p83_next (hv : voteB vs = true) (hm : methB m = true) (hl : lotsB lots = true) (hn : lots.length = vs.length) (h20 : n ≤ 20) : nextI vs (seatsL vs m lots n) m lots = nextL (seV vs) (seV (seatsL vs m lots n)) m lots := by
  unfold nextI
  rw [if_pos ((okN_iff _ _ _ _).2 ⟨hv, (seats_are hm hl hn n h20).1, hm, hl, hn⟩)]
/-- **More votes do not have fewer seats** (promise 84). -/
theorem p84_more (hv : voteB vs = true) (hm : methB m = true) (hl : lotsB lots = true) (hn : lots.length = vs.length) (h20 : n ≤ 20) {i k : Nat} (hi : i < vs.length) (hk : k < vs.length) (h : vs[k]?.getD 0 < vs[i]?.getD 0) : (seatsL vs m lots n)[k]?.getD 0 ≤ (seatsL vs m lots n)[i]?.getD 0 := by
  obtain ⟨⟨x1, -, -⟩, -⟩ := (voteB_iff vs).1 hv
  have hg := totals_of2 hm hl hn h20
  have := chk_order (V := seV vs) (G := seV (seatsL vs m lots n)) (Int.le_of_lt (meth_nn hm).1) (fun z => seV_nn (by rw [seatsL_length]; exact hg) z) (fun z => seV_nn x1 z) (seats_check hv hm hl hn h20) (lots_mem hl (show i < lots.length by omega)) (lots_mem hl (show k < lots.length by omega)) (by rw [seV_nat, seV_nat]; exact h)
  rw [seV_nat, seV_nat] at this
  exact this
theorem p84_equal (hv : voteB vs = true) (hm : methB m = true) (hl : lotsB lots = true) (hn : lots.length = vs.length) (h20 : n ≤ 20) {i k : Nat} (hi : i < vs.length) (hk : k < vs.length) (h : vs[i]?.getD 0 = vs[k]?.getD 0) (hb : befL lots (i : Int) (k : Int) = true) : (seatsL vs m lots n)[k]?.getD 0 ≤ (seatsL vs m lots n)[i]?.getD 0 ∧ (seatsL vs m lots n)[i]?.getD 0 ≤ (seatsL vs m lots n)[k]?.getD 0 + 1 := by
  obtain ⟨⟨x1, -, -⟩, -⟩ := (voteB_iff vs).1 hv
  have him := lots_mem hl (show i < lots.length by omega)
  have hkm := lots_mem hl (show k < lots.length by omega)
  have hg := totals_of2 hm hl hn h20
  have hvi := toB_at x1 hi
  rcases Int.lt_or_le 0 (vs[i]?.getD 0) with hp | hp
  · have h3 := (seats_are (vs := vs) hm hl hn n h20).2.2
    have e := seatF_early (V := seV vs) (meth_nn hm).1 (vB_nodup hl) him hkm (by rw [seV_nat, seV_nat]; exact h.symm) (by rw [seV_nat]; exact hp) ((befL_iff him).1 hb) n
    rw [← h3 _ him, ← h3 _ hkm, seV_nat, seV_nat] at e
    have c := chk_near (V := seV vs) (G := seV (seatsL vs m lots n)) (meth_nn hm).1 (fun z => seV_nn (by rw [seatsL_length]; exact hg) z) (seats_check hv hm hl hn h20) him hkm (by rw [seV_nat, seV_nat]; exact h.symm) (by rw [seV_nat]; exact hp)
    rw [seV_nat, seV_nat] at c
    exact ⟨e, c⟩
  · have h0 : vs[i]?.getD 0 = 0 := by omega
    rw [seats_none hv hm hl hn h20 hi h0, seats_none hv hm hl hn h20 hk (by omega)]
    omega
/-- **Only shares count** (promise 85). -/
def dblL (vs : List Int) : List Int := vs.map fun z => 2 * z
theorem dblL_length (vs : List Int) : (dblL vs).length = vs.length := by simp [dblL]
theorem dblL_at (vs : List Int) (i : Nat) : (dblL vs)[i]?.getD 0 = 2 * vs[i]?.getD 0 := by
  unfold dblL
  rw [List.getElem?_map]
  cases vs[i]? <;> simp
theorem dbl_seV (vs : List Int) (z : Int) : seV (dblL vs) z = 2 * seV vs z := dblL_at vs z.toNat
theorem dbl_tot : ∀ vs : List Int, totI (dblL vs) = 2 * totI vs
  | [] => rfl
  | z :: t => by
    have := dbl_tot t
    unfold dblL at this ⊢
    rw [List.map_cons, totI_cons, totI_cons, this]; omega
theorem p85_vote (hv : voteB vs = true) (h49 : ∀ i, i < vs.length → vs[i]?.getD 0 ≤ 49) : voteB (dblL vs) = true := by
  obtain ⟨⟨x1, x2, x3⟩, x4⟩ := (voteB_iff vs).1 hv
  refine (voteB_iff _).2 ⟨⟨toB_of (fun i hi => ?_), by rw [dblL_length]; exact x2, by rw [dblL_length]; exact x3⟩, by rw [dbl_tot]; omega⟩
  rw [dblL_length] at hi
  have h1 := toB_at x1 hi
  have h2 := h49 i hi
  rw [dblL_at]; omega
theorem p85_seats (vs : List Int) (m : Int) {lots : List Int} (h0 : lots ≠ []) : ∀ n, seatsL (dblL vs) m lots n = seatsL vs m lots n
  | 0 => by unfold seatsL; rw [dblL_length]
  | n + 1 => by
    have ih := p85_seats vs m h0 n
    have e : nextL (seV (dblL vs)) (seV (seatsL vs m lots n)) m lots = nextL (seV vs) (seV (seatsL vs m lots n)) m lots := by
      rw [nextL_eq (V := seV (dblL vs)) (W := fun z => 2 * seV vs z) (G := seV (seatsL vs m lots n)) (H := seV (seatsL vs m lots n)) h0 (fun z _ => ⟨dbl_seV vs z, rfl⟩)]
      exact nextF_scale _ _ m _ _
    rw [seatsL_succ, seatsL_succ, ih, e]
/-- **Divisors by whole numbers keep whole parts** (promise 86). -/
theorem tot_index {zs : List Int} {n : Nat} (h : zs.length = n) : totI (((List.range n).map fun (k : Nat) => (k : Int)).map (seV zs)) = totI zs := by
  congr 1
  rw [List.map_map]
  refine List.ext_getElem (by simp [h]) (fun k h1 h2 => ?_)
  simp [seV, h2]
theorem p86_floor (hv : voteB vs = true) (hl : lotsB lots = true) (hn : lots.length = vs.length) (h20 : n ≤ 20) {i : Nat} (hi : i < vs.length) : vs[i]?.getD 0 * (n : Int) < ((seatsL vs 1 lots n)[i]?.getD 0 + 1) * totI vs := by
  obtain ⟨⟨x1, -, -⟩, x4⟩ := (voteB_iff vs).1 hv
  have hm : methB 1 = true := rfl
  have hg := totals_of2 (vs := vs) hm hl hn h20
  have hc := seats_check hv hm hl hn h20
  have hmem : ∀ z, z ∈ ((List.range vs.length).map fun (k : Nat) => (k : Int)) → z ∈ lots := fun z hz => by
    obtain ⟨k, hk, rfl⟩ := List.mem_map.1 hz
    exact lots_mem hl (by have := List.mem_range.1 hk; omega)
  have := chk_floor (V := seV vs) (G := seV (seatsL vs 1 lots n)) (lots := (List.range vs.length).map fun (k : Nat) => (k : Int)) (fun z => seV_nn (by rw [seatsL_length]; exact hg) z) (fun z => seV_nn x1 z) (fun a ha b hb hp => hc a (hmem a ha) b (hmem b hb) hp) (i := (i : Int)) (List.mem_map.2 ⟨i, List.mem_range.2 hi, rfl⟩) (by rw [tot_index rfl]; exact x4)
  rw [tot_index rfl, tot_index (seatsL_length _ _ _ _), (seats_are (vs := vs) hm hl hn n h20).2.1, seV_nat, seV_nat] at this
  exact this
end
/-- **The next seat goes to the greatest quotient** (promise 87). -/
theorem p87_next {vs gs lots : List Int} {m r : Int} (h : okN vs gs m lots = true) (hr : nextI vs gs m lots = r) : (0 ≤ r ∧ r < (vs.length : Int)) ∧ ∀ i, i < vs.length → vs[i]?.getD 0 * (m * gs[r.toNat]?.getD 0 + 1) ≤ vs[r.toNat]?.getD 0 * (m * gs[i]?.getD 0 + 1) ∧ (vs[r.toNat]?.getD 0 * (m * gs[i]?.getD 0 + 1) = vs[i]?.getD 0 * (m * gs[r.toNat]?.getD 0 + 1) → befL lots (i : Int) r = false) := by
  obtain ⟨hv, hg, hm, hl, hn⟩ := (okN_iff _ _ _ _).1 h
  obtain ⟨g1, g2, -⟩ := (giveB_iff _ _).1 hg
  rw [nextI, if_pos h] at hr
  have hs := next_spec (V := seV vs) (G := seV gs) (Int.le_of_lt (meth_nn hm).1) (fun z => seV_nn g1 z) (vB_nodup hl) (lots_ne hl)
  rw [hr] at hs
  have hrm := lotsB_mem hl _ hs.1
  refine ⟨by omega, fun i hi => ?_⟩
  have him := lots_mem hl (show i < lots.length by omega)
  obtain ⟨b1, b2⟩ := hs.2 _ him
  rw [seV_nat, seV_nat] at b1 b2
  refine ⟨b1, fun e => ?_⟩
  cases hb : befL lots (i : Int) r
  · rfl
  · have h1 := (befL_iff him).1 hb
    have h2 := b2 e.symm
    omega
/-- **The next seat keeps the check** (promise 88). -/
theorem p88_keeps {vs gs lots : List Int} {m r : Int} (h : okN vs gs m lots = true) (hr : nextI vs gs m lots = r) (hc : checkB vs gs m = true) (ht : totI gs ≠ 20) : checkB vs (gs.set r.toNat (gs[r.toNat]?.getD 0 + 1)) m = true := by
  obtain ⟨hv, hg, hm, hl, hn⟩ := (okN_iff _ _ _ _).1 h
  obtain ⟨g1, g2, g3⟩ := (giveB_iff _ _).1 hg
  obtain ⟨⟨x1, -, -⟩, -⟩ := (voteB_iff vs).1 hv
  have hrr := (p87_next h hr).1
  rw [nextI, if_pos h] at hr
  have hco := hc
  rw [checkB_yes ((okC_iff _ _ _).2 ⟨hv, hg, hm⟩)] at hc
  have hk := chk_next (V := seV vs) (G := seV gs) (Int.le_of_lt (meth_nn hm).1) (fun z => seV_nn g1 z) (fun z => seV_nn x1 z) (vB_nodup hl) (lots_ne hl) ((check_is hl hn).1 hc)
  rw [hr] at hk
  have hset : ∀ z, 0 ≤ z → seV (gs.set r.toNat (gs[r.toNat]?.getD 0 + 1)) z = plus (seV gs) r z := fun z hz => by
    rw [seV_set g2 hrr hz]
    unfold plus
    split
    · rename_i e; subst e; rfl
    · rfl
  have htot : totI (gs.set r.toNat (gs[r.toNat]?.getD 0 + 1)) = totI gs + 1 := by
    rw [totI_set _ _ _ (by omega)]; omega
  have hnn : ∀ i, i < (gs.set r.toNat (gs[r.toNat]?.getD 0 + 1)).length → 0 ≤ (gs.set r.toNat (gs[r.toNat]?.getD 0 + 1))[i]?.getD 0 := fun i hi => by
    have e := hset (i : Int) (by omega)
    rw [seV_nat] at e
    rw [e]
    have := plus_ge (seV gs) r (i : Int)
    have := seV_nn g1 (i : Int)
    omega
  have hle := (le_totI hnn).2
  have hG : giveB (gs.set r.toNat (gs[r.toNat]?.getD 0 + 1)) vs.length = true := (giveB_iff _ _).2 ⟨toB_of (fun i hi => ⟨hnn i hi, by have := hle i hi; omega⟩), by rw [List.length_set]; exact g2, by omega⟩
  rw [checkB_yes ((okC_iff _ _ _).2 ⟨hv, hG, hm⟩)]
  refine (check_is hl hn).2 (fun i hi k hk2 hp => ?_)
  have hi0 := (lotsB_mem hl i hi).1
  have hk0 := (lotsB_mem hl k hk2).1
  rw [hset i hi0] at hp ⊢
  rw [hset k hk0]
  exact hk i hi k hk2 hp
/-- **A seat that is moved is noticed, or equal** (promise 89). -/
theorem p89_move {vs gs : List Int} {m : Int} {i k : Nat} (hc : checkB vs gs m = true) (hi : i < vs.length) (hk : k < vs.length) (hik : i ≠ k) (h0 : gs[i]?.getD 0 ≠ 0) (h2 : checkB vs ((gs.set i (gs[i]?.getD 0 - 1)).set k (gs[k]?.getD 0 + 1)) m = true) : vs[i]?.getD 0 * (m * gs[k]?.getD 0 + 1) = vs[k]?.getD 0 * (m * (gs[i]?.getD 0 - 1) + 1) := by
  have o1 : okC vs gs m = true := by unfold checkB at hc; simp only [Bool.and_eq_true] at hc; exact hc.1
  have o2 : okC vs ((gs.set i (gs[i]?.getD 0 - 1)).set k (gs[k]?.getD 0 + 1)) m = true := by unfold checkB at h2; simp only [Bool.and_eq_true] at h2; exact h2.1
  obtain ⟨hv, hg, hm⟩ := (okC_iff _ _ _).1 o1
  obtain ⟨g1, g2, g3⟩ := (giveB_iff _ _).1 hg
  obtain ⟨⟨x1, x2, x3⟩, -⟩ := (voteB_iff vs).1 hv
  have hl := fromZero_lots x2 x3
  have hn : (fromZero vs.length).length = vs.length := fromZero_length _
  rw [checkB_yes o1] at hc
  rw [checkB_yes o2] at h2
  have c1 := (check_is hl hn).1 hc
  have c2 := (check_is hl hn).1 h2
  have hset : ∀ z, 0 ≤ z → seV ((gs.set i (gs[i]?.getD 0 - 1)).set k (gs[k]?.getD 0 + 1)) z = move (seV gs) (i : Int) (k : Int) z := fun z hz => by
    have e1 := seV_set (zs := gs.set i (gs[i]?.getD 0 - 1)) (n := vs.length) (by rw [List.length_set]; exact g2) (k := (k : Int)) (by omega) hz (gs[k]?.getD 0 + 1)
    have e2 := seV_set (zs := gs) g2 (k := (i : Int)) (by omega) hz (gs[i]?.getD 0 - 1)
    rw [Int.toNat_natCast] at e1 e2
    rw [e1, e2]
    unfold move
    by_cases a : z = (k : Int)
    · subst a
      rw [if_pos rfl, if_neg (by omega), if_pos rfl, seV_nat]
    · rw [if_neg a]
      by_cases b : z = (i : Int)
      · subst b; rw [if_pos rfl, if_pos rfl, seV_nat]
      · rw [if_neg b, if_neg b, if_neg a]
  have him := lots_mem hl (show i < (fromZero vs.length).length by omega)
  have hkm := lots_mem hl (show k < (fromZero vs.length).length by omega)
  have hgi := toB_at g1 (show i < gs.length by omega)
  have := chk_move (V := seV vs) (G := seV gs) (fun z => seV_nn g1 z) c1 him hkm (by omega) (by rw [seV_nat]; omega) (fun a ha b hb hp => by
    have ha0 := (lotsB_mem hl a ha).1
    have hb0 := (lotsB_mem hl b hb).1
    have := c2 a ha b hb (by rw [hset a ha0]; exact hp)
    rw [hset a ha0, hset b hb0] at this
    exact this)
  rw [seV_nat, seV_nat, seV_nat, seV_nat] at this
  exact this

end Go.Proofs.Ytgcocdacofpglaa
