/-
  Seats by divisors over lists: what is valid, who gets the next seat, what n rounds give, and the check. Of no memory.
  choicesUpTo and sumOf of impl: one to five numbers from 0 to a greatest one, and their sum. They write into no memory.
  Seats by remainders: shares rounded down, the seats that are left to the greatest remainders; shares. Votes and seats are functions of a party's number; lots are a list. Of no memory.
  Seats by remainders over lists: shares, the rounds, what is left behind each; the same rounds by a stack of remainders. Of no memory.
-/
import Derived.Test.YtmbhcgdapglbgaaGrp3
namespace Go.Proofs.Ytmbhcgdapglbgaa

/-- What a party has. -/
def seV (zs : List Int) (z : Int) : Int := zs[z.toNat]?.getD 0
theorem seV_nat (zs : List Int) (i : Nat) : seV zs (i : Int) = zs[i]?.getD 0 := by unfold seV; rw [Int.toNat_natCast]
/-- The first k numbers are from 0 to m. -/
def toB (zs : List Int) (m : Int) (k : Nat) : Bool := (List.range k).all fun i => inB (zs[i]?.getD 0) 0 m
theorem toB_succ (zs : List Int) (m : Int) (k : Nat) : toB zs m (k + 1) = (toB zs m k && inB (zs[k]?.getD 0) 0 m) := by simp [toB, List.range_succ]
theorem toB_no {zs : List Int} {m : Int} {k n : Nat} (h : toB zs m (k + 1) = false) (hk : k < n) : toB zs m n = false := by
  simp only [toB, List.all_eq_false, List.mem_range] at h ⊢
  obtain ⟨i, h1, h2⟩ := h
  exact ⟨i, by omega, h2⟩
theorem toB_at {zs : List Int} {m : Int} {k : Nat} (h : toB zs m k = true) {i : Nat} (hi : i < k) : 0 ≤ zs[i]?.getD 0 ∧ zs[i]?.getD 0 ≤ m := by
  simp only [toB, inB, decide_eq_true_eq, List.all_eq_true, List.mem_range] at h
  exact h i hi
theorem toB_of {zs : List Int} {m : Int} {k : Nat} (h : ∀ i, i < k → 0 ≤ zs[i]?.getD 0 ∧ zs[i]?.getD 0 ≤ m) : toB zs m k = true := by
  simp only [toB, inB, decide_eq_true_eq, List.all_eq_true, List.mem_range]
  exact h
/-- One to five numbers from 0 to m. -/
def choB (zs : List Int) (m : Int) : Bool := toB zs m zs.length && inB (zs.length : Int) 1 5
theorem choB_iff (zs : List Int) (m : Int) : choB zs m = true ↔ toB zs m zs.length = true ∧ 1 ≤ zs.length ∧ zs.length ≤ 5 := by
  simp only [choB, inB, Bool.and_eq_true, decide_eq_true_eq]
  refine and_congr Iff.rfl ⟨fun h => by omega, fun h => by omega⟩
/-- Votes are valid. -/
def voteB (vs : List Int) : Bool := choB vs 99 && decide (0 < totI vs)
/-- Seats that were given to n parties are valid. -/
def giveB (gs : List Int) (n : Nat) : Bool := toB gs 20 gs.length && (decide (gs.length = n) && decide (totI gs ≤ 20))
/-- There is such a method. -/
def methB (m : Int) : Bool := decide (m = 1) || decide (m = 2)
theorem methB_iff (m : Int) : methB m = true ↔ m = 1 ∨ m = 2 := by simp [methB]
theorem voteB_iff (vs : List Int) : voteB vs = true ↔ (toB vs 99 vs.length = true ∧ 1 ≤ vs.length ∧ vs.length ≤ 5) ∧ 0 < totI vs := by
  unfold voteB; rw [Bool.and_eq_true, choB_iff, decide_eq_true_iff]
theorem giveB_iff (gs : List Int) (n : Nat) : giveB gs n = true ↔ toB gs 20 gs.length = true ∧ gs.length = n ∧ totI gs ≤ 20 := by
  unfold giveB; rw [Bool.and_eq_true, Bool.and_eq_true, decide_eq_true_iff, decide_eq_true_iff]
theorem seV_nn {zs : List Int} {m : Int} (h : toB zs m zs.length = true) (z : Int) : 0 ≤ seV zs z := by
  unfold seV
  by_cases hi : z.toNat < zs.length
  · exact (toB_at h hi).1
  · rw [List.getElem?_eq_none (by omega)]; exact Int.le_refl _
/-- The votes, the seats, the method and the lots are valid. -/
def okN (vs gs : List Int) (m : Int) (lots : List Int) : Bool := voteB vs && (giveB gs vs.length && (methB m && (lotsB lots && decide (lots.length = vs.length))))
def okD (vs : List Int) (s m : Int) (lots : List Int) : Bool := voteB vs && (inB s 0 20 && (methB m && (lotsB lots && decide (lots.length = vs.length))))
theorem okN_iff (vs gs : List Int) (m : Int) (lots : List Int) : okN vs gs m lots = true ↔ voteB vs = true ∧ giveB gs vs.length = true ∧ methB m = true ∧ lotsB lots = true ∧ lots.length = vs.length := by
  unfold okN; simp only [Bool.and_eq_true, decide_eq_true_iff]
theorem okD_iff (vs : List Int) (s m : Int) (lots : List Int) : okD vs s m lots = true ↔ voteB vs = true ∧ (0 ≤ s ∧ s ≤ 20) ∧ methB m = true ∧ lotsB lots = true ∧ lots.length = vs.length := by
  unfold okD inB; simp only [Bool.and_eq_true, decide_eq_true_iff]
/-- What SeatsNext returns. -/
def nextI (vs gs : List Int) (m : Int) (lots : List Int) : Int := if okN vs gs m lots = true then nextL (seV vs) (seV gs) m lots else -1
/-- The seats behind n rounds. -/
def seatsL (vs : List Int) (m : Int) (lots : List Int) : Nat → List Int
  | 0 => List.replicate vs.length 0
  | n + 1 => (seatsL vs m lots n).set (nextL (seV vs) (seV (seatsL vs m lots n)) m lots).toNat (seV (seatsL vs m lots n) (nextL (seV vs) (seV (seatsL vs m lots n)) m lots) + 1)
theorem seatsL_succ (vs : List Int) (m : Int) (lots : List Int) (n : Nat) : seatsL vs m lots (n + 1) = (seatsL vs m lots n).set (nextL (seV vs) (seV (seatsL vs m lots n)) m lots).toNat (seV (seatsL vs m lots n) (nextL (seV vs) (seV (seatsL vs m lots n)) m lots) + 1) := rfl
theorem seatsL_length (vs : List Int) (m : Int) (lots : List Int) : ∀ n, (seatsL vs m lots n).length = vs.length
  | 0 => by simp [seatsL]
  | n + 1 => by rw [seatsL_succ, List.length_set, seatsL_length vs m lots n]
/-- What SeatsDivisor returns. -/
def divL (vs : List Int) (s m : Int) (lots : List Int) : List Int := if okD vs s m lots = true then seatsL vs m lots s.toNat else []
/-- Of a seat of i's: whether k wants it no more. -/
def chAt (vs gs : List Int) (m : Int) (i k : Nat) : Bool := !(decide (0 < gs[i]?.getD 0) && decide (vs[i]?.getD 0 * divI m (gs[k]?.getD 0) < vs[k]?.getD 0 * divI m (gs[i]?.getD 0 - 1)))
def chRow (vs gs : List Int) (m : Int) (i K : Nat) : Bool := (List.range K).all fun k => chAt vs gs m i k
def chTo (vs gs : List Int) (m : Int) (n I : Nat) : Bool := (List.range I).all fun i => chRow vs gs m i n
theorem chRow_succ (vs gs : List Int) (m : Int) (i K : Nat) : chRow vs gs m i (K + 1) = (chRow vs gs m i K && chAt vs gs m i K) := by simp [chRow, List.range_succ]
theorem chTo_succ (vs gs : List Int) (m : Int) (n I : Nat) : chTo vs gs m n (I + 1) = (chTo vs gs m n I && chRow vs gs m I n) := by simp [chTo, List.range_succ]
theorem chTo_no {vs gs : List Int} {m : Int} {n i k : Nat} (hi : i < n) (hk : k < n) (h : chAt vs gs m i k = false) : chTo vs gs m n n = false := by
  unfold chTo
  rw [List.all_eq_false]
  refine ⟨i, List.mem_range.2 hi, ?_⟩
  unfold chRow
  rw [Bool.not_eq_true, List.all_eq_false]
  exact ⟨k, List.mem_range.2 hk, by rw [h]; decide⟩
theorem chTo_row {vs gs : List Int} {m : Int} {n i : Nat} (hi : i < n) (h : chRow vs gs m i n = false) : chTo vs gs m n n = false := by
  unfold chTo
  rw [List.all_eq_false]
  exact ⟨i, List.mem_range.2 hi, by rw [h]; decide⟩
/-- The check of valid arguments. -/
def okC (vs gs : List Int) (m : Int) : Bool := voteB vs && (giveB gs vs.length && methB m)
theorem okC_iff (vs gs : List Int) (m : Int) : okC vs gs m = true ↔ voteB vs = true ∧ giveB gs vs.length = true ∧ methB m = true := by
  unfold okC; simp only [Bool.and_eq_true]
/-- What SeatsCheck returns. -/
def checkB (vs gs : List Int) (m : Int) : Bool := okC vs gs m && chTo vs gs m vs.length vs.length

/-- The next one depends on the seats of those in the lots alone. -/
theorem nextF_eq {V W G H : Int → Int} {m : Int} : ∀ (t : List Int) (b : Int), (∀ z ∈ b :: t, V z = W z ∧ G z = H z) → nextF V G m b t = nextF W H m b t
  | [], _, _ => rfl
  | k :: t, b, h => by
    unfold nextF
    have hb := h b (by simp)
    have hk := h k (by simp)
    rw [hb.1, hb.2, hk.1, hk.2]
    split
    · exact nextF_eq t k (fun z hz => h z (by rcases List.mem_cons.1 hz with e | e <;> simp [e]))
    · exact nextF_eq t b (fun z hz => h z (by rcases List.mem_cons.1 hz with e | e <;> simp [e]))
theorem nextL_eq {V W G H : Int → Int} {m : Int} {lots : List Int} (h0 : lots ≠ []) (h : ∀ z ∈ lots, V z = W z ∧ G z = H z) : nextL V G m lots = nextL W H m lots := by
  match lots, h0, h with
  | b :: t, _, h => exact nextF_eq t b h
theorem seV_set {zs : List Int} {n : Nat} (hl : zs.length = n) {k z : Int} (hk : 0 ≤ k ∧ k < (n : Int)) (hz : 0 ≤ z) (v : Int) : seV (zs.set k.toNat v) z = if z = k then v else seV zs z := by
  unfold seV
  by_cases e : z = k
  · subst e; rw [if_pos rfl, List.getElem?_set_self (by omega)]; rfl
  · rw [if_neg e, List.getElem?_set_ne (by omega)]
theorem totI_set : ∀ (zs : List Int) (k : Nat) (v : Int), k < zs.length → totI (zs.set k v) = totI zs + (v - zs[k]?.getD 0)
  | [], _, _, h => by simp at h
  | z :: t, 0, v, _ => by simp only [List.set_cons_zero, totI_cons, List.getElem?_cons_zero, Option.getD_some]; omega
  | z :: t, k + 1, v, h => by
    have := totI_set t k v (by simpa using h)
    simp only [List.set_cons_succ, totI_cons, List.getElem?_cons_succ]; omega
theorem totI_repl (n : Nat) : totI (List.replicate n 0) = 0 := by
  induction n with
  | zero => rfl
  | succ n ih => rw [List.replicate_succ, totI_cons, ih]; rfl
theorem le_totI : ∀ {zs : List Int}, (∀ i, i < zs.length → 0 ≤ zs[i]?.getD 0) → (0 ≤ totI zs ∧ ∀ i, i < zs.length → zs[i]?.getD 0 ≤ totI zs)
  | [], _ => ⟨Int.le_refl _, fun i h => by simp at h⟩
  | z :: t, h => by
    have ih := le_totI (zs := t) (fun i hi => by have := h (i + 1) (by simpa using hi); simpa using this)
    have h0 := h 0 (by simp)
    simp only [List.getElem?_cons_zero, Option.getD_some] at h0
    rw [totI_cons]
    refine ⟨by omega, fun i hi => ?_⟩
    match i, hi with
    | 0, _ => simp only [List.getElem?_cons_zero, Option.getD_some]; omega
    | i + 1, hi =>
      have := ih.2 i (by simpa using hi)
      simp only [List.getElem?_cons_succ]; omega
theorem take_le_totI {zs : List Int} (h : ∀ i, i < zs.length → 0 ≤ zs[i]?.getD 0) (k : Nat) : totI (zs.take k) ≤ totI zs := by
  have e : totI zs = totI (zs.take k) + totI (zs.drop k) := by rw [← totI_app, List.take_append_drop]
  have := (le_totI (zs := zs.drop k) (fun i hi => by
    rw [List.getElem?_drop]; exact h _ (by simp at hi; omega))).1
  omega

section
variable {vs lots : List Int} {m : Int}
theorem meth_nn (hm : methB m = true) : 0 < m ∧ m ≤ 2 := by rcases (methB_iff m).1 hm with e | e <;> omega
theorem lots_ne (hl : lotsB lots = true) : lots ≠ [] := fun e => by have := (lotsB_len hl).1; rw [e] at this; simp at this
theorem next_in {gs : List Int} {n : Nat} (hm : methB m = true) (hl : lotsB lots = true) (hn : lots.length = n) (hg : toB gs 20 gs.length = true) : 0 ≤ nextL (seV vs) (seV gs) m lots ∧ nextL (seV vs) (seV gs) m lots < (n : Int) := by
  have := (next_spec (V := seV vs) (Int.le_of_lt (meth_nn hm).1) (fun z => seV_nn hg z) (vB_nodup hl) (lots_ne hl)).1
  have := lotsB_mem hl _ this
  omega
/-- Rounds by list are rounds by function; what they keep. -/
theorem seats_are (hm : methB m = true) (hl : lotsB lots = true) (hn : lots.length = vs.length) : ∀ n : Nat, n ≤ 20 → giveB (seatsL vs m lots n) vs.length = true ∧ totI (seatsL vs m lots n) = (n : Int) ∧ ∀ z ∈ lots, seV (seatsL vs m lots n) z = seatF (seV vs) m lots n z
  | 0, _ => by
    have h0 : ∀ i : Nat, (List.replicate vs.length (0 : Int))[i]?.getD 0 = 0 := fun i => by
      rw [List.getElem?_replicate]; split <;> rfl
    refine ⟨(giveB_iff _ _).2 ⟨toB_of (fun i _ => ?_), by simp [seatsL], ?_⟩, ?_, fun z _ => ?_⟩
    · show 0 ≤ (List.replicate vs.length (0 : Int))[i]?.getD 0 ∧ (List.replicate vs.length (0 : Int))[i]?.getD 0 ≤ 20
      rw [h0]; omega
    · show totI (List.replicate vs.length 0) ≤ 20
      rw [totI_repl]; omega
    · exact totI_repl _
    · exact h0 _
  | n + 1, h => by
    obtain ⟨h1, h2, h3⟩ := seats_are hm hl hn n (by omega)
    obtain ⟨h4, h5, h6⟩ := (giveB_iff _ _).1 h1
    have hlen := seatsL_length vs m lots n
    have hk := next_in (vs := vs) hm hl hn h4
    have he : nextL (seV vs) (seV (seatsL vs m lots n)) m lots = nextL (seV vs) (seatF (seV vs) m lots n) m lots := nextL_eq (lots_ne hl) (fun z hz => ⟨rfl, h3 z hz⟩)
    have hs := seatsL_succ vs m lots n
    obtain ⟨k, hke⟩ : ∃ k, nextL (seV vs) (seV (seatsL vs m lots n)) m lots = k := ⟨_, rfl⟩
    rw [hke] at hk hs he
    have hkn : 0 ≤ seV (seatsL vs m lots n) k := seV_nn h4 k
    have ht : totI (seatsL vs m lots (n + 1)) = (n : Int) + 1 := by
      rw [hs, totI_set _ _ _ (by omega), h2]
      show (n : Int) + (seV (seatsL vs m lots n) k + 1 - seV (seatsL vs m lots n) k) = (n : Int) + 1
      omega
    have hnn : ∀ i, i < (seatsL vs m lots (n + 1)).length → 0 ≤ (seatsL vs m lots (n + 1))[i]?.getD 0 := fun i hi => by
      have e := seV_set hlen hk (z := (i : Int)) (by omega) (seV (seatsL vs m lots n) k + 1)
      rw [seV_nat, ← hs] at e
      rw [e]
      split
      · omega
      · exact seV_nn h4 _
    have hle := (le_totI hnn).2
    refine ⟨(giveB_iff _ _).2 ⟨toB_of (fun i hi => ⟨hnn i hi, ?_⟩), seatsL_length _ _ _ _, by omega⟩, by omega, fun z hz => ?_⟩
    · have := hle i hi
      omega
    · have hz0 := lotsB_mem hl z hz
      rw [hs, seV_set hlen hk hz0.1, seatF_succ, ← he]
      unfold plus
      split
      · rename_i e; subst e; rw [h3 z hz]
      · exact h3 z hz
/-- **All seats are given** (promise 82), and no seats without votes. -/
theorem seats_check (hv : voteB vs = true) (hm : methB m = true) (hl : lotsB lots = true) (hn : lots.length = vs.length) {n : Nat} (h20 : n ≤ 20) : Chk (seV vs) (seV (seatsL vs m lots n)) m lots := by
  obtain ⟨⟨hv1, -, -⟩, -⟩ := (voteB_iff vs).1 hv
  have h3 := (seats_are hm hl hn n h20).2.2
  have hc := seatF_chk (V := seV vs) (Int.le_of_lt (meth_nn hm).1) (seV_nn hv1) (vB_nodup hl) (lots_ne hl) n
  intro i hi k hk hp
  rw [h3 i hi] at hp ⊢
  rw [h3 k hk]
  exact hc i hi k hk hp
theorem seats_none (hv : voteB vs = true) (hm : methB m = true) (hl : lotsB lots = true) (hn : lots.length = vs.length) {n : Nat} (h20 : n ≤ 20) {i : Nat} (hi : i < vs.length) (h0 : vs[i]?.getD 0 = 0) : (seatsL vs m lots n)[i]?.getD 0 = 0 := by
  obtain ⟨⟨hv1, -, -⟩, hv4⟩ := (voteB_iff vs).1 hv
  have him : (i : Int) ∈ lots := lots_mem hl (by omega)
  have hx : ∃ k ∈ lots, 0 < seV vs k := by
    by_cases h : ∃ k ∈ lots, 0 < seV vs k
    · exact h
    · exfalso
      have hz : ∀ j, j < vs.length → vs[j]?.getD 0 = (List.replicate vs.length (0 : Int))[j]?.getD 0 := fun j hj => by
        have h1 : ¬ 0 < seV vs (j : Int) := fun hp => h ⟨(j : Int), lots_mem hl (by omega), hp⟩
        have h2 := seV_nn hv1 (j : Int)
        rw [seV_nat] at h1 h2
        rw [List.getElem?_replicate, if_pos hj]
        show vs[j]?.getD 0 = 0
        omega
      have := totI_le (a := vs) (b := List.replicate vs.length 0) (by simp) (fun j hj => by rw [hz j hj]; exact Int.le_refl _)
      rw [totI_repl] at this
      omega
  have := seatF_none (V := seV vs) (Int.le_of_lt (meth_nn hm).1) (seV_nn hv1) (vB_nodup hl) hx (i := (i : Int)) (by rw [seV_nat]; exact h0) n
  rw [← (seats_are hm hl hn n h20).2.2 _ him, seV_nat] at this
  exact this
end

/-- The check by list is the check by function. -/
theorem check_is {vs gs : List Int} {m : Int} {lots : List Int} (hl : lotsB lots = true) (hn : lots.length = vs.length) : chTo vs gs m vs.length vs.length = true ↔ Chk (seV vs) (seV gs) m lots := by
  have hc : chTo vs gs m vs.length vs.length = true ↔ ∀ i, i < vs.length → ∀ k, k < vs.length → 0 < gs[i]?.getD 0 → vs[k]?.getD 0 * divI m (gs[i]?.getD 0 - 1) ≤ vs[i]?.getD 0 * divI m (gs[k]?.getD 0) := by
    simp only [chTo, chRow, chAt, List.all_eq_true, List.mem_range, Bool.not_eq_true', Bool.and_eq_false_iff, decide_eq_false_iff_not, Int.not_lt]
    exact ⟨fun h i hi k hk hp => by rcases h i hi k hk with e | e <;> omega, fun h i hi k hk => by
      rcases Int.lt_or_le 0 (gs[i]?.getD 0) with e | e
      · exact .inr (h i hi k hk e)
      · exact .inl e⟩
  rw [hc]
  constructor
  · intro h i hi k hk hp
    have h1 := lotsB_mem hl i hi
    have h2 := lotsB_mem hl k hk
    exact h i.toNat (by omega) k.toNat (by omega) hp
  · intro h i hi k hk hp
    have := h (i : Int) (lots_mem hl (by omega)) (k : Int) (lots_mem hl (by omega))
    simp only [seV_nat] at this
    exact this hp

/-- Of two quotients the less one. -/
theorem less_of {a b c d : Int} (hb : 0 < b) (hd : 0 < d) : lessF (ofF a b) (ofF c d) = decide (a * d < c * b) := by
  rw [(less_same (ofF_red hb).1 (b := (a, b)) hb ofF_same).1, (less_same (ofF_red hd).1 (b := (c, d)) (c := (a, b)) hd ofF_same).2]
  rfl
/-- All quotients. -/
def qsL (vs gs : List Int) (m : Int) : List Fr := (List.range vs.length).map fun i => ofF (vs[i]?.getD 0) (divI m (gs[i]?.getD 0))
theorem qsL_length (vs gs : List Int) (m : Int) : (qsL vs gs m).length = vs.length := by simp [qsL]
theorem quot_ok {v d : Int} (hv : 0 ≤ v ∧ v ≤ 99) (hd : 1 ≤ d ∧ d ≤ 41) : ofOk v d = true := (ofOk_iff v d).2 ⟨by omega, by omega⟩
theorem quot_fr {v d : Int} (hv : 0 ≤ v ∧ v ≤ 99) (hd : 1 ≤ d ∧ d ≤ 41) : ofR v d = ofF v d ∧ fracB (ofF v d) = true := by
  have h := quot_ok hv hd
  have := (of_valid h).1
  rw [ofR_yes h] at this
  exact ⟨ofR_yes h, this⟩
theorem divI_in {m g : Int} (hm : methB m = true) (hg : 0 ≤ g ∧ g ≤ 20) : 1 ≤ divI m g ∧ divI m g ≤ 41 := by
  unfold divI
  rcases (methB_iff m).1 hm with e | e <;> subst e <;> omega

end Go.Proofs.Ytmbhcgdapglbgaa

namespace Go.Proofs.Ytmbhcgdapglbgaa
open Go.RowKit

set_option maxHeartbeats 1000000 in
/-- **choicesUpTo**. -/
theorem choices_as (a : Option Addr) (len cap : Nat) (zs : List Int) (m : Int) (v : Bool) (w : World) (h : IsInts w a len cap zs) (hv : choB zs m = v) :
    Calls Try.prog 53 #[.slice a len cap, .int .i64 m] w fun e w' => e = .returned (.bool v) ∧ w = w' := by
  obtain ⟨h1, h2, h3, h4⟩ := h
  have HV : Hid (v = (toB zs m len && inB (len : Int) 1 5)) := by unfold Hid; rw [← hv]; unfold choB; rw [h1]
  have H4 := Lib.hid h4; clear h4 h1 hv
  by_cases hl1 : len < 1
  · have e : v = false := by rw [HV.out]; simp [inB]; omega
    subst e
    go_enter Try.func53, Try.ntmps53
    go_wp2
    go_ret
    exact ⟨rfl, rfl⟩
  by_cases hl5 : 5 < len
  · have e : v = false := by rw [HV.out]; simp [inB]; omega
    subst e
    go_enter Try.func53, Try.ntmps53
    go_wp2
    go_ret
    exact ⟨rfl, rfl⟩
  have e : inB (len : Int) 1 5 = true := by simp [inB]; omega
  have HV : Hid (v = toB zs m len) := by unfold Hid; rw [HV.out, e, Bool.and_true]
  clear e
  go_enter Try.func53, Try.ntmps53
  go_wp2
  go_loop [6, 17] (fun _ i => ∃ k : Nat, k ≤ len ∧ i = .int .i64 k ∧ Hid (toB zs m k = true)) (fun _ i => len - (intOf i).toNat)
  case atStart => exact ⟨0, Nat.zero_le _, rfl, by simp [Hid, toB]⟩
  case round =>
    obtain ⟨k, hk, rfl, hc⟩ := hrel
    by_cases hlt : k < len
    · obtain ⟨b, off, rfl, hb, hcell⟩ := H4.out (by omega)
      have hck := hcell k hlt
      have HS := toB_succ zs m k
      rw [hc.out, Bool.true_and] at HS
      have HS := Lib.hid HS
      obtain ⟨z, hz⟩ : ∃ z, zs[k]?.getD 0 = z := ⟨_, rfl⟩
      rw [hz] at hck HS
      clear hcell hz
      by_cases hneg : z < 0
      · have hn : inB z 0 m = false := by simp [inB]; omega
        have HI := Lib.hid hn; clear hn
        go_wp2
        go_ret
        refine ⟨ret_bool ?_, rfl⟩
        rw [HV.out, toB_no (by rw [HS.out, HI.out]) hlt]
      · by_cases hbig : m < z
        · have hn : inB z 0 m = false := by simp [inB]; omega
          have HI := Lib.hid hn; clear hn
          go_wp2
          go_ret
          refine ⟨ret_bool ?_, rfl⟩
          rw [HV.out, toB_no (by rw [HS.out, HI.out]) hlt]
        · have hn : inB z 0 m = true := by simp [inB]; omega
          have HI := Lib.hid hn; clear hn
          go_wp2
          go_round
          case rel => exact ⟨k + 1, by omega, by go_num, by unfold Hid; rw [HS.out, HI.out]⟩
          case measure => simp [intOf]; omega
    · obtain rfl : k = len := by omega
      go_wp2
      go_ret
      refine ⟨ret_bool ?_, rfl⟩
      rw [HV.out, hc.out]

theorem tot_take {zs : List Int} {k : Nat} (h : k < zs.length) : totI (zs.take (k + 1)) = totI (zs.take k) + zs[k]?.getD 0 := by
  have e : zs[k]?.getD 0 = zs[k] := by simp [h]
  rw [List.take_succ_eq_append_getElem h, totI_snoc, e]
theorem tot_bound {zs : List Int} {m : Int} (hm : 0 ≤ m) {n : Nat} (hb : ∀ x : Nat, x < n → 0 ≤ zs[x]?.getD 0 ∧ zs[x]?.getD 0 ≤ m) : ∀ k, k ≤ n → 0 ≤ totI (zs.take k) ∧ totI (zs.take k) ≤ m * (k : Int)
  | 0, _ => by simp [totI_nil]
  | k + 1, h => by
    have ih := tot_bound hm hb k (by omega)
    have := hb k (by omega)
    have e : m * ((k + 1 : Nat) : Int) = m * (k : Int) + m := by rw [Int.natCast_add, Int.mul_add]; simp
    by_cases hk : k < zs.length
    · rw [tot_take hk, e]
      omega
    · have e2 : zs.take (k + 1) = zs.take k := by rw [List.take_of_length_le (by omega), List.take_of_length_le (by omega)]
      rw [e2, e]; omega

set_option maxHeartbeats 2000000 in
/-- **sumOf** of impl. -/
theorem implSum_as (a : Option Addr) (len cap : Nat) (zs : List Int) (s : Int) (w : World) (h : IsInts w a len cap zs) (hl : len ≤ 20) (hb : ∀ x : Nat, x < len → 0 ≤ zs[x]?.getD 0 ∧ zs[x]?.getD 0 ≤ 100000) (hs : totI zs = s) :
    Calls Try.prog 38 #[.slice a len cap] w fun e w' => e = .returned (.int .i64 s) ∧ w = w' := by
  obtain ⟨h1, h2, h3, h4⟩ := h
  have H1 := Lib.hid h1
  have H4 := Lib.hid h4
  have HB := Lib.hid hb
  have HS := Lib.hid hs
  clear h1 h4 hb hs
  go_enter Try.func38, Try.ntmps38
  go_wp2
  go_loop [3, 5, 8] (fun nv _ iv => ∃ (i : Nat) (t : Int), i ≤ len ∧ iv = .int .i64 (i : Int) ∧ nv = .int .i64 t ∧ Hid (totI (zs.take i) = t)) (fun _ _ iv => len - (intOf iv).toNat)
  case atStart => exact ⟨0, 0, Nat.zero_le _, rfl, rfl, by unfold Hid; simp [totI_nil]⟩
  case round =>
    obtain ⟨i, t, hil, rfl, rfl, hT⟩ := hrel
    by_cases hlt : i < len
    · obtain ⟨b, off, rfl, hb, hc⟩ := H4.out (by omega)
      have ci := hc i hlt
      obtain ⟨z, hz⟩ : ∃ z, zs[i]?.getD 0 = z := ⟨_, rfl⟩
      have hzb := HB.out i hlt
      have htb := tot_bound (m := 100000) (by omega) HB.out i (by omega)
      rw [hT.out] at htb
      rw [hz] at ci hzb
      have HT2 : Hid (totI (zs.take (i + 1)) = t + z) := by rw [Hid, tot_take (by rw [H1.out]; exact hlt), hz, hT.out]
      clear hc hz
      go_wp2
      go_round
      case rel => exact ⟨i + 1, t + z, by omega, by go_num, rfl, HT2⟩
      case measure => simp [intOf]; omega
    · obtain rfl : i = len := by omega
      have HE : Hid (t = s) := by rw [Hid, ← HS.out, ← hT.out, List.take_of_length_le (by rw [H1.out]; exact Nat.le_refl _)]
      go_wp2
      go_ret
      exact ⟨ret_int HE.out, rfl⟩

end Go.Proofs.Ytmbhcgdapglbgaa

namespace Go.Proofs.Ytmbhcgdapglbgaa

/-- The greatest of some numbers: of several ones the first one in the lots. -/
def topF (R : Int → Int) : Int → List Int → Int
  | best, [] => best
  | best, k :: t => topF R (if R best < R k then k else best) t
def topL (R : Int → Int) (lots : List Int) : Int := topF R (lots[0]?.getD 0) (lots.drop 1)
def IsTopR (R : Int → Int) (lots : List Int) (w i : Int) : Prop := R i < R w ∨ (R i = R w ∧ lots.idxOf w ≤ lots.idxOf i)
theorem topF_spec {R : Int → Int} : ∀ (t pre : List Int) (best : Int), (pre ++ t).Nodup → best ∈ pre → (∀ i ∈ pre, IsTopR R (pre ++ t) best i) →
    topF R best t ∈ pre ++ t ∧ ∀ i ∈ pre ++ t, IsTopR R (pre ++ t) (topF R best t) i
  | [], pre, best, _, hb, h => by rw [List.append_nil] at *; exact ⟨hb, h⟩
  | k :: t, pre, best, hn, hb, h => by
    have e : pre ++ k :: t = (pre ++ [k]) ++ t := by simp
    have hix : ∀ i ∈ pre, (pre ++ k :: t).idxOf i < (pre ++ k :: t).idxOf k := fun i hi => idx_pre hn hi
    unfold topF
    by_cases hlt : R best < R k
    · rw [if_pos hlt]
      have := topF_spec (R := R) t (pre ++ [k]) k (by rw [← e]; exact hn) (by simp) (fun i hi => by
        rw [← e]
        rcases List.mem_append.1 hi with hi | hi
        · have hs := h i hi
          unfold IsTopR at *
          omega
        · have : i = k := by simpa using hi
          subst this; exact .inr ⟨rfl, Nat.le_refl _⟩)
      rwa [← e] at this
    · rw [if_neg hlt]
      have := topF_spec (R := R) t (pre ++ [k]) best (by rw [← e]; exact hn) (by simp [hb]) (fun i hi => by
        rw [← e]
        rcases List.mem_append.1 hi with hi | hi
        · exact h i hi
        · have : i = k := by simpa using hi
          subst this
          have := hix best hb
          unfold IsTopR
          omega)
      rwa [← e] at this
theorem topL_spec {R : Int → Int} {lots : List Int} (hn : lots.Nodup) (h0 : lots ≠ []) : topL R lots ∈ lots ∧ ∀ i ∈ lots, IsTopR R lots (topL R lots) i := by
  match lots, h0 with
  | b :: t, _ =>
    have := topF_spec (R := R) t [b] b hn (by simp) (fun i hi => by
      have : i = b := by simpa using hi
      subst this; exact .inr ⟨rfl, Nat.le_refl _⟩)
    simpa [topL] using this
/-- There is one alone. -/
theorem topL_one {R : Int → Int} {lots : List Int} (hn : lots.Nodup) (h0 : lots ≠ []) {w : Int} (hw : w ∈ lots) (h : ∀ i ∈ lots, IsTopR R lots w i) : topL R lots = w := by
  obtain ⟨h1, h2⟩ := topL_spec (R := R) hn h0
  have a := h _ h1
  have b := h2 w hw
  unfold IsTopR at a b
  have hi : lots.idxOf (topL R lots) = lots.idxOf w := by omega
  have e1 := List.getElem_idxOf (List.idxOf_lt_length_of_mem h1)
  have e2 := List.getElem_idxOf (List.idxOf_lt_length_of_mem hw)
  rw [← e1, ← e2]
  simp only [hi]

/-- The one who got a seat for a remainder has none of it left. -/
def gone (R : Int → Int) (w : Int) : Int → Int := fun z => if z = w then -1 else R z
/-- Who has got how many further seats behind n rounds; what is left then. -/
def upR (R : Int → Int) (lots : List Int) : Nat → (Int → Int) × (Int → Int)
  | 0 => (fun _ => 0, R)
  | n + 1 => (plus (upR R lots n).1 (topL (upR R lots n).2 lots), gone (upR R lots n).2 (topL (upR R lots n).2 lots))
def Up (R : Int → Int) (lots : List Int) (n : Nat) : Int → Int := (upR R lots n).1
def SeatsLeft (R : Int → Int) (lots : List Int) (n : Nat) : Int → Int := (upR R lots n).2
theorem Up_succ (R : Int → Int) (lots : List Int) (n : Nat) : Up R lots (n + 1) = plus (Up R lots n) (topL (SeatsLeft R lots n) lots) := rfl
theorem Left_succ (R : Int → Int) (lots : List Int) (n : Nat) : SeatsLeft R lots (n + 1) = gone (SeatsLeft R lots n) (topL (SeatsLeft R lots n) lots) := rfl

/-- What holds while remainders get seats. -/
structure RemInv (R : Int → Int) (lots : List Int) (n : Nat) : Prop where
  bit : ∀ z, Up R lots n z = 0 ∨ Up R lots n z = 1
  tot : totI (lots.map (Up R lots n)) = (n : Int)
  left : ∀ z, SeatsLeft R lots n z = if Up R lots n z = 1 then -1 else R z
  pos : ∀ z, Up R lots n z = 1 → 0 < R z
  first : ∀ i ∈ lots, ∀ k ∈ lots, Up R lots n i = 1 → Up R lots n k = 0 → IsTopR R lots i k

theorem totS_zero : ∀ l : List Int, totI (l.map fun _ => (0 : Int)) = 0
  | [] => rfl
  | a :: t => by rw [List.map_cons, totI_cons, totS_zero t]; rfl
theorem tot_scale_le : ∀ (l : List Int) (R U : Int → Int) (T : Int), (∀ z ∈ l, R z ≤ T * U z) → totI (l.map R) ≤ T * totI (l.map U)
  | [], _, _, T, _ => by simp [totI_nil]
  | k :: t, R, U, T, h => by
    have h1 := h k (by simp)
    have h2 := tot_scale_le t R U T (fun z hz => h z (by simp [hz]))
    rw [List.map_cons, List.map_cons, totI_cons, totI_cons, Int.mul_add]; omega
theorem remInv {R : Int → Int} {lots : List Int} {T : Int} {L : Nat} (hn : lots.Nodup) (h0 : lots ≠ []) (hR : ∀ z, 0 ≤ R z) (hT : ∀ z, R z < T) (hL : totI (lots.map R) = (L : Int) * T) : ∀ n, n ≤ L → RemInv R lots n
  | 0, _ => ⟨fun _ => .inl rfl, totS_zero lots, fun _ => rfl, fun z h => by have : (0 : Int) = 1 := h; omega, fun i _ k _ h => by have : (0 : Int) = 1 := h; omega⟩
  | n + 1, hle => by
    have ih := remInv hn h0 hR hT hL n (by omega)
    have hTp : 0 < T := by have := hR 0; have := hT 0; omega
    -- someone is left who has a remainder
    have hex : ∃ k ∈ lots, Up R lots n k = 0 ∧ 0 < R k := by
      refine Classical.byContradiction fun hno => ?_
      have hz : ∀ z ∈ lots, R z ≤ T * Up R lots n z := fun z hz => by
        rcases ih.bit z with h | h
        · have : ¬ 0 < R z := fun hp => hno ⟨z, hz, h, hp⟩
          have := hR z
          rw [h, Int.mul_zero]; omega
        · rw [h, Int.mul_one]; exact Int.le_of_lt (hT z)
      have h1 := tot_scale_le lots R (Up R lots n) T hz
      rw [hL, ih.tot, Int.mul_comm (L : Int)] at h1
      have := Int.le_of_mul_le_mul_left h1 hTp
      omega
    obtain ⟨k, hk, hk0, hkp⟩ := hex
    obtain ⟨w, hw⟩ : ∃ w, topL (SeatsLeft R lots n) lots = w := ⟨_, rfl⟩
    obtain ⟨hwm, hwt⟩ := topL_spec (R := SeatsLeft R lots n) hn h0
    rw [hw] at hwm hwt
    have hLk : SeatsLeft R lots n k = R k := by rw [ih.left, if_neg (by omega)]
    have hLw : 0 < SeatsLeft R lots n w := by
      have := hwt k hk
      unfold IsTopR at this
      omega
    have hw0 : Up R lots n w = 0 := by
      rcases ih.bit w with h | h
      · exact h
      · rw [ih.left, if_pos h] at hLw; omega
    have hLR : SeatsLeft R lots n w = R w := by rw [ih.left, if_neg (by omega)]
    have hU : ∀ z, Up R lots (n + 1) z = if z = w then Up R lots n z + 1 else Up R lots n z := fun z => by rw [Up_succ, hw]; rfl
    refine ⟨fun z => ?_, ?_, fun z => ?_, fun z hz => ?_, fun i hi j hj h1 h2 => ?_⟩
    · rw [hU]
      by_cases e : z = w
      · subst e; rw [if_pos rfl]; omega
      · rw [if_neg e]; exact ih.bit z
    · rw [Up_succ, hw, tot_plus _ hn hwm, ih.tot]; omega
    · rw [Left_succ, hw, hU]
      unfold gone
      by_cases e : z = w
      · subst e; rw [if_pos rfl, if_pos rfl, if_pos (by omega)]
      · rw [if_neg e, if_neg e]; exact ih.left z
    · rw [hU] at hz
      by_cases e : z = w
      · subst e; omega
      · rw [if_neg e] at hz; exact ih.pos z hz
    · rw [hU] at h1 h2
      have hjw : j ≠ w := fun e => by rw [if_pos e] at h2; have := ih.bit j; omega
      rw [if_neg hjw] at h2
      have hLj : SeatsLeft R lots n j = R j := by rw [ih.left, if_neg (by omega)]
      by_cases e : i = w
      · subst e
        have := hwt j hj
        unfold IsTopR at this ⊢
        rw [hLj, hLR] at this
        exact this
      · rw [if_neg e] at h1
        exact ih.first i hi j hj h1 h2

/-- Shares: rounded down, what is over; rounded up. -/
def lowI (v S T : Int) : Int := v * S / T
def overI (v S T : Int) : Int := v * S % T
def highI (v S T : Int) : Int := (v * S + T - 1) / T
theorem low_over (v S T : Int) : T * lowI v S T + overI v S T = v * S := by unfold lowI overI; exact Int.mul_ediv_add_emod _ _
theorem over_range {v S T : Int} (hT : 0 < T) : 0 ≤ overI v S T ∧ overI v S T < T := ⟨Int.emod_nonneg _ (by omega), Int.emod_lt_of_pos _ hT⟩
/-- **A share is between two whole numbers** (promise 94). -/
theorem high_eq {v S T : Int} (hT : 0 < T) : highI v S T = if overI v S T = 0 then lowI v S T else lowI v S T + 1 := by
  have h1 := low_over v S T
  have h2 := over_range (v := v) (S := S) hT
  unfold highI
  rw [← h1]
  split
  · next h =>
    rw [h, Int.add_zero, Int.add_sub_assoc, Int.add_comm, Int.add_mul_ediv_left _ _ (by omega)]
    rw [Int.ediv_eq_zero_of_lt (by omega) (by omega)]; omega
  · next h =>
    have e : T * lowI v S T + overI v S T + T - 1 = (overI v S T - 1) + T * (lowI v S T + 1) := by rw [Int.mul_add]; omega
    rw [e, Int.add_mul_ediv_left _ _ (by omega), Int.ediv_eq_zero_of_lt (by omega) (by omega)]; omega
theorem quota_law {v S T : Int} (hT : 0 < T) : lowI v S T * T ≤ v * S ∧ v * S ≤ highI v S T * T ∧ highI v S T - lowI v S T ≤ 1 ∧ (highI v S T = lowI v S T ↔ v * S % T = 0) := by
  have h1 := low_over v S T
  have h2 := over_range (v := v) (S := S) hT
  have h3 := high_eq (v := v) (S := S) hT
  have e : lowI v S T * T = T * lowI v S T := Int.mul_comm _ _
  have hov : v * S % T = overI v S T := rfl
  rw [hov]
  by_cases h : overI v S T = 0
  · rw [if_pos h] at h3
    rw [h3]
    refine ⟨by omega, by omega, by omega, fun _ => h, fun _ => rfl⟩
  · rw [if_neg h] at h3
    rw [h3]
    have e2 : (lowI v S T + 1) * T = T * lowI v S T + T := by rw [Int.add_mul, Int.one_mul, e]
    exact ⟨by omega, by omega, by omega, fun k => by omega, fun k => absurd k h⟩

/-- What all rounded-down shares leave: so many seats, and so much of remainders. -/
theorem tot_mul : ∀ (l : List Int) (V : Int → Int) (a : Int), totI (l.map fun z => V z * a) = totI (l.map V) * a
  | [], _, a => by simp [totI_nil]
  | k :: t, V, a => by
    rw [List.map_cons, List.map_cons, totI_cons, totI_cons, tot_mul t V a, Int.add_mul]
theorem tot_two : ∀ (l : List Int) (A B C : Int → Int) (T : Int), (∀ z ∈ l, T * A z + B z = C z) → T * totI (l.map A) + totI (l.map B) = totI (l.map C)
  | [], _, _, _, T, _ => by simp [totI_nil]
  | k :: t, A, B, C, T, h => by
    have h1 := h k (by simp)
    have h2 := tot_two t A B C T (fun z hz => h z (by simp [hz]))
    rw [List.map_cons, List.map_cons, List.map_cons, totI_cons, totI_cons, totI_cons, Int.mul_add]; omega
theorem tot_nonneg : ∀ (l : List Int) (A : Int → Int), (∀ z ∈ l, 0 ≤ A z) → 0 ≤ totI (l.map A)
  | [], _, _ => by simp [totI_nil]
  | k :: t, A, h => by
    have h1 := h k (by simp)
    have h2 := tot_nonneg t A (fun z hz => h z (by simp [hz]))
    rw [List.map_cons, totI_cons]; omega
theorem left_seats {V : Int → Int} {lots : List Int} {S T : Int} (hT : totI (lots.map V) = T) (hTp : 0 < T) : ∃ L : Nat, totI (lots.map fun z => lowI (V z) S T) + (L : Int) = S ∧ totI (lots.map fun z => overI (V z) S T) = (L : Int) * T := by
  have h1 := tot_two lots (fun z => lowI (V z) S T) (fun z => overI (V z) S T) (fun z => V z * S) T (fun z _ => low_over (V z) S T)
  rw [tot_mul lots V S, hT] at h1
  have h2 := tot_nonneg lots (fun z => overI (V z) S T) (fun z _ => (over_range hTp).1)
  obtain ⟨A, hA⟩ : ∃ A, totI (lots.map fun z => lowI (V z) S T) = A := ⟨_, rfl⟩
  obtain ⟨B, hB⟩ : ∃ B, totI (lots.map fun z => overI (V z) S T) = B := ⟨_, rfl⟩
  rw [hA, hB] at h1
  rw [hB] at h2
  rw [hA, hB]
  have h3 : B = (S - A) * T := by rw [Int.sub_mul, Int.mul_comm S, Int.mul_comm A]; omega
  have h4 : 0 ≤ S - A := by
    rcases Int.lt_or_le (S - A) 0 with h | h
    · exfalso
      have := Int.mul_neg_of_neg_of_pos h hTp
      omega
    · exact h
  refine ⟨(S - A).toNat, by omega, ?_⟩
  rw [Int.toNat_of_nonneg h4]; exact h3

/-- The seats. -/
def remF (V : Int → Int) (lots : List Int) (S T : Int) (n : Nat) : Int → Int := fun z => lowI (V z) S T + Up (fun z => overI (V z) S T) lots n z
theorem tot_sum : ∀ (l : List Int) (A B : Int → Int), totI (l.map fun z => A z + B z) = totI (l.map A) + totI (l.map B)
  | [], _, _ => rfl
  | k :: t, A, B => by
    rw [List.map_cons, List.map_cons, List.map_cons, totI_cons, totI_cons, totI_cons, tot_sum t A B]; omega
/-- **All seats are given, and fairly; greater remainders come first** (promises 90, 91). -/
theorem rem_law {V : Int → Int} {lots : List Int} {S T : Int} (hn : lots.Nodup) (h0 : lots ≠ []) (hTp : 0 < T) {L : Nat} (hL : totI (lots.map fun z => overI (V z) S T) = (L : Int) * T) (hS : totI (lots.map fun z => lowI (V z) S T) + (L : Int) = S) :
    totI (lots.map (remF V lots S T L)) = S ∧ (∀ z, lowI (V z) S T ≤ remF V lots S T L z ∧ remF V lots S T L z ≤ highI (V z) S T) ∧
    (∀ i ∈ lots, ∀ k ∈ lots, lowI (V i) S T < remF V lots S T L i → remF V lots S T L k = lowI (V k) S T → IsTopR (fun z => overI (V z) S T) lots i k) := by
  have hI := remInv (R := fun z => overI (V z) S T) (T := T) hn h0 (fun z => (over_range hTp).1) (fun z => (over_range hTp).2) hL L (Nat.le_refl _)
  refine ⟨?_, fun z => ?_, fun i hi k hk h1 h2 => ?_⟩
  · unfold remF
    rw [tot_sum, hI.tot]; exact hS
  · have hb := hI.bit z
    have hp := hI.pos z
    have hh := high_eq (v := V z) (S := S) hTp
    have ho := (over_range (v := V z) (S := S) hTp).1
    unfold remF
    rcases hb with h | h
    · rw [h]; split at hh <;> omega
    · have := hp h
      rw [if_neg (by omega)] at hh
      rw [h]; omega
  · unfold remF at h1 h2
    have hb := hI.bit i
    exact hI.first i hi k hk (by omega) (by omega)
/-- **More votes do not have fewer seats** (promise 92). -/
theorem rem_votes {V : Int → Int} {lots : List Int} {S T : Int} (hn : lots.Nodup) (h0 : lots ≠ []) (hTp : 0 < T) (hSn : 0 ≤ S) {L : Nat} (hL : totI (lots.map fun z => overI (V z) S T) = (L : Int) * T) (hS : totI (lots.map fun z => lowI (V z) S T) + (L : Int) = S)
    {i k : Int} (hi : i ∈ lots) (hk : k ∈ lots) (hv : V k < V i) : remF V lots S T L k ≤ remF V lots S T L i := by
  have hI := remInv (R := fun z => overI (V z) S T) (T := T) hn h0 (fun z => (over_range hTp).1) (fun z => (over_range hTp).2) hL L (Nat.le_refl _)
  have h1 := low_over (V i) S T
  have h2 := low_over (V k) S T
  have o1 := over_range (v := V i) (S := S) hTp
  have o2 := over_range (v := V k) (S := S) hTp
  have hm : V k * S ≤ V i * S := Int.mul_le_mul_of_nonneg_right (Int.le_of_lt hv) hSn
  have hlow : lowI (V k) S T ≤ lowI (V i) S T := by
    unfold lowI; exact Int.ediv_le_ediv hTp hm
  have b1 := hI.bit i
  have b2 := hI.bit k
  unfold remF
  rcases Int.lt_or_le (lowI (V k) S T) (lowI (V i) S T) with hlt | hle
  · omega
  · have he : lowI (V k) S T = lowI (V i) S T := by omega
    rw [he] at h2 ⊢
    rcases b2 with h | h
    · rcases b1 with g | g <;> omega
    · rcases b1 with g | g
      · exfalso
        have hf := hI.first k hk i hi h g
        have hpos := hI.pos k h
        unfold IsTopR at hf
        have hSp : 0 < S := by
          rcases Int.lt_or_le 0 S with hp | hp
          · exact hp
          · have e0 : S = 0 := by omega
            exfalso
            have : overI (V k) S T = 0 := by unfold overI; rw [e0, Int.mul_zero]; exact Int.zero_emod _
            omega
        have hm2 : V k * S < V i * S := Int.mul_lt_mul_of_pos_right hv hSp
        simp only at hf
        omega
      · omega
/-- **Whole shares need no remainders** (promise 93). -/
theorem rem_whole {V : Int → Int} {lots : List Int} {S T : Int} (hTp : 0 < T) {L : Nat} (hL : totI (lots.map fun z => overI (V z) S T) = (L : Int) * T) (hz : ∀ z ∈ lots, overI (V z) S T = 0) : L = 0 := by
  have e : (lots.map fun z => overI (V z) S T) = lots.map fun _ => (0 : Int) := List.map_congr_left hz
  rw [e, totS_zero] at hL
  have := Int.mul_eq_zero.1 hL.symm
  omega
/-- **Shares are together all seats** (promise 95). -/
theorem quota_sum {V : Int → Int} {l : List Int} {S T : Int} (hT : totI (l.map V) = T) (hTp : 0 < T) : totI (l.map fun z => lowI (V z) S T) ≤ S ∧ S ≤ totI (l.map fun z => highI (V z) S T) := by
  have hall : ∀ (l : List Int), totI (l.map fun z => lowI (V z) S T) * T ≤ totI (l.map V) * S ∧ totI (l.map V) * S ≤ totI (l.map fun z => highI (V z) S T) * T := fun l => by
    induction l with
    | nil => simp [totI_nil]
    | cons k t ih =>
      have h1 := quota_law (v := V k) (S := S) hTp
      rw [List.map_cons, List.map_cons, List.map_cons, totI_cons, totI_cons, totI_cons, Int.add_mul, Int.add_mul, Int.add_mul]
      omega
  obtain ⟨h1, h2⟩ := hall l
  rw [hT, Int.mul_comm T] at h1 h2
  exact ⟨Int.le_of_mul_le_mul_right h1 hTp, Int.le_of_mul_le_mul_right h2 hTp⟩

end Go.Proofs.Ytmbhcgdapglbgaa

namespace Go.Proofs.Ytmbhcgdapglbgaa

theorem totR_perm {l m : List Int} (F : Int → Int) (h : l.Perm m) : totI (l.map F) = totI (m.map F) := by
  induction h with
  | nil => rfl
  | cons a _ ih => rw [List.map_cons, List.map_cons, totI_cons, totI_cons, ih]
  | swap a b t => simp only [List.map_cons, totI_cons]; omega
  | trans _ _ h1 h2 => rw [h1, h2]
/-- The numbers of all parties. -/
def upN (n : Nat) : List Int := (List.range n).map fun (i : Nat) => (i : Int)
theorem upN_length (n : Nat) : (upN n).length = n := by simp [upN]
theorem upN_map (n : Nat) (F : Int → Int) : (upN n).map F = (List.range n).map fun (i : Nat) => F (i : Int) := by simp [upN]
theorem lots_upN {lots : List Int} {n : Nat} (hl : lotsB lots = true) (hn : lots.length = n) : lots.Perm (upN n) := by
  refine (List.perm_ext_iff_of_nodup (vB_nodup hl) ?_).2 (fun z => ⟨fun hz => ?_, fun hz => ?_⟩)
  · rw [upN, List.Nodup, List.pairwise_map]
    exact List.nodup_range.imp (fun h e => h (by omega))
  · have := (vB_mem hl).2.2 z hz
    exact List.mem_map.2 ⟨z.toNat, List.mem_range.2 (by omega), by omega⟩
  · obtain ⟨i, hi, rfl⟩ := List.mem_map.1 hz
    exact lots_mem hl (by rw [hn]; exact List.mem_range.1 hi)
theorem tot_lots {lots : List Int} {n : Nat} (hl : lotsB lots = true) (hn : lots.length = n) (F : Int → Int) : totI (lots.map F) = totI ((List.range n).map fun (i : Nat) => F (i : Int)) := by
  rw [totR_perm F (lots_upN hl hn), upN_map]
theorem range_self (vs : List Int) : ((List.range vs.length).map fun (i : Nat) => seV vs (i : Int)) = vs := by
  refine List.ext_getElem (by simp) (fun i h1 h2 => ?_)
  simp [seV, h2]
theorem tot_self (vs : List Int) : totI ((upN vs.length).map (seV vs)) = totI vs := by
  rw [upN_map, range_self]

/-- A party's share, rounded down; what is over; rounded up. -/
def loF (vs : List Int) (s : Int) : Int → Int := fun z => lowI (seV vs z) s (totI vs)
def ovF (vs : List Int) (s : Int) : Int → Int := fun z => overI (seV vs z) s (totI vs)
def hiF (vs : List Int) (s : Int) : Int → Int := fun z => highI (seV vs z) s (totI vs)
def loL (vs : List Int) (s : Int) : List Int := (List.range vs.length).map fun (i : Nat) => loF vs s (i : Int)
def ovL (vs : List Int) (s : Int) : List Int := (List.range vs.length).map fun (i : Nat) => ovF vs s (i : Int)
/-- How many seats are left. -/
def lfN (vs : List Int) (s : Int) : Nat := (s - totI (loL vs s)).toNat
/-- The seats behind k rounds, what is left then, and who gets the next one. -/
def upL (vs : List Int) (s : Int) (lots : List Int) (k : Nat) : List Int := (List.range vs.length).map fun (i : Nat) => remF (seV vs) lots s (totI vs) k (i : Int)
def reL (vs : List Int) (s : Int) (lots : List Int) (k : Nat) : List Int := (List.range vs.length).map fun (i : Nat) => SeatsLeft (ovF vs s) lots k (i : Int)
def tpA (vs : List Int) (s : Int) (lots : List Int) (k : Nat) : Int := topL (SeatsLeft (ovF vs s) lots k) lots
/-- The votes, the seats and the lots are valid. -/
def okR (vs : List Int) (s : Int) (lots : List Int) : Bool := voteB vs && (inB s 0 20 && (lotsB lots && decide (lots.length = vs.length)))
theorem okR_iff (vs : List Int) (s : Int) (lots : List Int) : okR vs s lots = true ↔ voteB vs = true ∧ (0 ≤ s ∧ s ≤ 20) ∧ lotsB lots = true ∧ lots.length = vs.length := by
  unfold okR inB; simp only [Bool.and_eq_true, decide_eq_true_iff]
/-- What SeatsRemainder returns. -/
def remL (vs : List Int) (s : Int) (lots : List Int) : List Int := if okR vs s lots = true then upL vs s lots (lfN vs s) else []
/-- What SeatsQuota and SeatsFair return. -/
def okQ (vs : List Int) (s p : Int) : Bool := voteB vs && (inB s 0 20 && (decide (0 ≤ p) && decide (p < (vs.length : Int))))
theorem okQ_iff (vs : List Int) (s p : Int) : okQ vs s p = true ↔ voteB vs = true ∧ (0 ≤ s ∧ s ≤ 20) ∧ 0 ≤ p ∧ p < (vs.length : Int) := by
  unfold okQ inB; simp only [Bool.and_eq_true, decide_eq_true_iff]
def loR (vs : List Int) (s p : Int) : Int := if okQ vs s p = true then loF vs s p else -1
def hiR (vs : List Int) (s p : Int) : Int := if okQ vs s p = true then hiF vs s p else -1
def faTo (vs gs : List Int) (s : Int) (k : Nat) : Bool := (List.range k).all fun (i : Nat) => inB (gs[i]?.getD 0) (loF vs s (i : Int)) (hiF vs s (i : Int))
theorem faTo_succ (vs gs : List Int) (s : Int) (k : Nat) : faTo vs gs s (k + 1) = (faTo vs gs s k && inB (gs[k]?.getD 0) (loF vs s (k : Int)) (hiF vs s (k : Int))) := by simp [faTo, List.range_succ]
theorem faTo_no {vs gs : List Int} {s : Int} {k n : Nat} (h : faTo vs gs s (k + 1) = false) (hk : k < n) : faTo vs gs s n = false := by
  simp only [faTo, List.all_eq_false, List.mem_range] at h ⊢
  obtain ⟨i, h1, h2⟩ := h
  exact ⟨i, by omega, h2⟩
theorem faTo_iff {vs gs : List Int} {s : Int} {k : Nat} : faTo vs gs s k = true ↔ ∀ i, i < k → loF vs s (i : Int) ≤ gs[i]?.getD 0 ∧ gs[i]?.getD 0 ≤ hiF vs s (i : Int) := by
  simp only [faTo, inB, decide_eq_true_eq, List.all_eq_true, List.mem_range]
def fairB (vs gs : List Int) : Bool := voteB vs && (giveB gs vs.length && faTo vs gs (totI gs) vs.length)

theorem loL_length (vs : List Int) (s : Int) : (loL vs s).length = vs.length := by simp [loL]
theorem ovL_length (vs : List Int) (s : Int) : (ovL vs s).length = vs.length := by simp [ovL]
theorem upL_length (vs : List Int) (s : Int) (lots : List Int) (k : Nat) : (upL vs s lots k).length = vs.length := by simp [upL]
theorem reL_length (vs : List Int) (s : Int) (lots : List Int) (k : Nat) : (reL vs s lots k).length = vs.length := by simp [reL]
theorem loL_at {vs : List Int} {i : Nat} (s : Int) (h : i < vs.length) : (loL vs s)[i]?.getD 0 = loF vs s (i : Int) := by simp [loL, h]
theorem ovL_at {vs : List Int} {i : Nat} (s : Int) (h : i < vs.length) : (ovL vs s)[i]?.getD 0 = ovF vs s (i : Int) := by simp [ovL, h]
theorem upL_at {vs : List Int} {i : Nat} (s : Int) (lots : List Int) (k : Nat) (h : i < vs.length) : (upL vs s lots k)[i]?.getD 0 = remF (seV vs) lots s (totI vs) k (i : Int) := by simp [upL, h]
theorem reL_at {vs : List Int} {i : Nat} (s : Int) (lots : List Int) (k : Nat) (h : i < vs.length) : (reL vs s lots k)[i]?.getD 0 = SeatsLeft (ovF vs s) lots k (i : Int) := by simp [reL, h]
theorem upL_zero (vs : List Int) (s : Int) (lots : List Int) : upL vs s lots 0 = loL vs s := by
  unfold upL loL remF loF
  refine List.map_congr_left (fun i _ => ?_)
  show lowI (seV vs (i : Int)) s (totI vs) + 0 = _
  omega
theorem reL_zero (vs : List Int) (s : Int) (lots : List Int) : reL vs s lots 0 = ovL vs s := rfl

section
variable {vs lots : List Int} {s : Int}
/-- What a valid share is. -/
theorem share_in (hv : voteB vs = true) (hs : 0 ≤ s ∧ s ≤ 20) {z : Int} (_ : 0 ≤ z) (hz : z < (vs.length : Int)) : 0 < totI vs ∧ totI vs ≤ 495 ∧ (0 ≤ seV vs z ∧ seV vs z ≤ 99) ∧ (0 ≤ seV vs z * s ∧ seV vs z * s ≤ 1980) ∧ (0 ≤ loF vs s z ∧ loF vs s z ≤ 20) ∧ (0 ≤ ovF vs s z ∧ ovF vs s z < totI vs) := by
  obtain ⟨⟨h1, h2, h3⟩, h4⟩ := (voteB_iff vs).1 hv
  have hi : z.toNat < vs.length := by omega
  have hb := toB_at h1 hi
  have hle := (le_totI (zs := vs) (fun i hi => (toB_at h1 hi).1)).2 _ hi
  have h5 : totI vs ≤ 495 := by
    have h := (tot_bound (zs := vs) (m := 99) (by omega) (n := vs.length) (fun i hi => toB_at h1 hi) vs.length (Nat.le_refl _)).2
    rw [List.take_length] at h
    omega
  have hb' : 0 ≤ seV vs z ∧ seV vs z ≤ 99 := hb
  have hle' : seV vs z ≤ totI vs := hle
  have hm0 : 0 ≤ seV vs z * s := Int.mul_nonneg hb'.1 hs.1
  have hm1 : seV vs z * s ≤ 1980 := by
    have a := Int.mul_le_mul_of_nonneg_right hb'.2 hs.1
    omega
  refine ⟨h4, h5, hb', ⟨hm0, hm1⟩, ⟨Int.ediv_nonneg hm0 (Int.le_of_lt h4), ?_⟩, over_range h4⟩
  have hm2 : seV vs z * s ≤ s * totI vs := by
    rw [Int.mul_comm s]
    exact Int.mul_le_mul_of_nonneg_right hle' hs.1
  have : loF vs s z ≤ s := Int.ediv_le_of_le_mul h4 hm2
  omega
theorem hi_eq (hv : voteB vs = true) (z : Int) : hiF vs s z = if ovF vs s z = 0 then loF vs s z else loF vs s z + 1 := high_eq ((voteB_iff vs).1 hv).2

/-- **How many seats are left**, and that more parties have a remainder. -/
theorem lf_is (hv : voteB vs = true) (_ : 0 ≤ s ∧ s ≤ 20) : totI (loL vs s) + (lfN vs s : Int) = s ∧ totI (ovL vs s) = (lfN vs s : Int) * totI vs ∧ lfN vs s < vs.length := by
  obtain ⟨⟨h1, h2, h3⟩, h4⟩ := (voteB_iff vs).1 hv
  obtain ⟨L, e1, e2⟩ := left_seats (V := seV vs) (lots := upN vs.length) (S := s) (tot_self vs) h4
  have f1 : ((upN vs.length).map fun z => lowI (seV vs z) s (totI vs)) = loL vs s := upN_map _ _
  have f2 : ((upN vs.length).map fun z => overI (seV vs z) s (totI vs)) = ovL vs s := upN_map _ _
  have e3 := tot_scale_le (upN vs.length) (fun z => overI (seV vs z) s (totI vs)) (fun _ => 1) (totI vs - 1) (fun z _ => by have := (over_range (v := seV vs z) (S := s) h4).2; omega)
  have e4 : ∀ l : List Int, totI (l.map fun _ => (1 : Int)) = (l.length : Int) := fun l => by
    induction l with
    | nil => rfl
    | cons a t ih => rw [List.map_cons, totI_cons, ih, List.length_cons]; omega
  rw [e4, upN_length] at e3
  rw [f1] at e1
  rw [f2] at e2 e3
  have hL : lfN vs s = L := by unfold lfN; omega
  rw [hL]
  refine ⟨e1, e2, ?_⟩
  rw [e2] at e3
  rcases Nat.lt_or_ge L vs.length with h | h
  · exact h
  · exfalso
    have a := Int.mul_le_mul_of_nonneg_right (show (vs.length : Int) ≤ (L : Int) by omega) (Int.le_of_lt h4)
    rw [Int.sub_mul, Int.one_mul, Int.mul_comm (totI vs)] at e3
    omega
theorem rem_inv (hv : voteB vs = true) (hs : 0 ≤ s ∧ s ≤ 20) (hl : lotsB lots = true) (hn : lots.length = vs.length) {k : Nat} (hk : k ≤ lfN vs s) : RemInv (ovF vs s) lots k := by
  have h4 := ((voteB_iff vs).1 hv).2
  refine remInv (T := totI vs) (L := lfN vs s) (vB_nodup hl) (lots_ne hl) (fun z => (over_range h4).1) (fun z => (over_range h4).2) ?_ k hk
  rw [tot_lots hl hn]; exact (lf_is hv hs).2.1
theorem tp_in (hl : lotsB lots = true) (hn : lots.length = vs.length) (k : Nat) : tpA vs s lots k ∈ lots ∧ 0 ≤ tpA vs s lots k ∧ tpA vs s lots k < (vs.length : Int) := by
  have h := (topL_spec (R := SeatsLeft (ovF vs s) lots k) (vB_nodup hl) (lots_ne hl)).1
  have := lotsB_mem hl _ h
  exact ⟨h, this.1, by rw [← hn]; exact this.2⟩
theorem up_step (hl : lotsB lots = true) (hn : lots.length = vs.length) (k : Nat) : upL vs s lots (k + 1) = (upL vs s lots k).set (tpA vs s lots k).toNat ((upL vs s lots k)[(tpA vs s lots k).toNat]?.getD 0 + 1) := by
  obtain ⟨-, h0, h1⟩ := tp_in (vs := vs) (s := s) hl hn k
  have ht : (tpA vs s lots k).toNat < vs.length := by omega
  rw [upL_at s lots k ht]
  refine List.ext_getElem (by simp [upL]) (fun i a b => ?_)
  have hi : i < vs.length := by simpa [upL] using a
  rw [List.getElem_set]
  have e1 : (upL vs s lots (k + 1))[i] = remF (seV vs) lots s (totI vs) (k + 1) (i : Int) := by simp [upL]
  have e2 : ∀ h, (upL vs s lots k)[i]'h = remF (seV vs) lots s (totI vs) k (i : Int) := fun h => by simp [upL]
  rw [e1, e2]
  have e3 : Up (fun z => overI (seV vs z) s (totI vs)) lots (k + 1) = plus (Up (ovF vs s) lots k) (tpA vs s lots k) := rfl
  have e4 : Up (fun z => overI (seV vs z) s (totI vs)) lots k = Up (ovF vs s) lots k := rfl
  unfold remF
  rw [e3, e4]
  unfold plus
  by_cases e : (i : Int) = tpA vs s lots k
  · rw [if_pos e, if_pos (by omega), e, Int.toNat_of_nonneg h0]; omega
  · rw [if_neg e, if_neg (by omega)]
theorem re_step (hl : lotsB lots = true) (hn : lots.length = vs.length) (k : Nat) : reL vs s lots (k + 1) = (reL vs s lots k).set (tpA vs s lots k).toNat (-1) := by
  obtain ⟨-, h0, h1⟩ := tp_in (vs := vs) (s := s) hl hn k
  refine List.ext_getElem (by simp [reL]) (fun i a b => ?_)
  have hi : i < vs.length := by simpa [reL] using a
  rw [List.getElem_set]
  have e1 : (reL vs s lots (k + 1))[i] = SeatsLeft (ovF vs s) lots (k + 1) (i : Int) := by simp [reL]
  have e2 : ∀ h, (reL vs s lots k)[i]'h = SeatsLeft (ovF vs s) lots k (i : Int) := fun h => by simp [reL]
  have e3 : SeatsLeft (ovF vs s) lots (k + 1) = gone (SeatsLeft (ovF vs s) lots k) (tpA vs s lots k) := rfl
  rw [e1, e2, e3]
  unfold gone
  by_cases e : (i : Int) = tpA vs s lots k
  · rw [if_pos e, if_pos (by omega)]
  · rw [if_neg e, if_neg (by omega)]
theorem up_tot (hv : voteB vs = true) (hs : 0 ≤ s ∧ s ≤ 20) (hl : lotsB lots = true) (hn : lots.length = vs.length) {k : Nat} (hk : k ≤ lfN vs s) : totI (upL vs s lots k) = totI (loL vs s) + (k : Int) := by
  have h := (rem_inv hv hs hl hn hk).tot
  rw [tot_lots hl hn] at h
  have e := tot_sum (upN vs.length) (loF vs s) (Up (ovF vs s) lots k)
  rw [upN_map, upN_map, upN_map] at e
  have e2 : totI (upL vs s lots k) = totI ((List.range vs.length).map fun (i : Nat) => loF vs s (i : Int) + Up (ovF vs s) lots k (i : Int)) := rfl
  rw [e2, e, h]
  rfl
theorem re_low (hv : voteB vs = true) (hs : 0 ≤ s ∧ s ≤ 20) (hl : lotsB lots = true) (hn : lots.length = vs.length) {k : Nat} (hk : k ≤ lfN vs s) {i : Nat} (hi : i < vs.length) : -1 ≤ (reL vs s lots k)[i]?.getD 0 := by
  rw [reL_at s lots k hi, (rem_inv hv hs hl hn hk).left]
  have := (share_in hv hs (z := (i : Int)) (by omega) (by omega)).2.2.2.2.2
  split <;> omega
theorem up_in (hv : voteB vs = true) (hs : 0 ≤ s ∧ s ≤ 20) (hl : lotsB lots = true) (hn : lots.length = vs.length) {k : Nat} (hk : k ≤ lfN vs s) {i : Nat} (hi : i < vs.length) : 0 ≤ (upL vs s lots k)[i]?.getD 0 ∧ (upL vs s lots k)[i]?.getD 0 ≤ 21 := by
  rw [upL_at s lots k hi]
  have h1 := (share_in hv hs (z := (i : Int)) (by omega) (by omega)).2.2.2.2.1
  have h2 := (rem_inv hv hs hl hn hk).bit (i : Int)
  have e : remF (seV vs) lots s (totI vs) k (i : Int) = loF vs s (i : Int) + Up (ovF vs s) lots k (i : Int) := rfl
  rw [e]
  omega
/-- **The specification's pick** is the one with the greatest remainder, first in the lots. -/
theorem pick_top (hv : voteB vs = true) (hs : 0 ≤ s ∧ s ≤ 20) (hl : lotsB lots = true) (hn : lots.length = vs.length) {k : Nat} (hk : k ≤ lfN vs s) : pickL lots (mostL (reL vs s lots k) (allL vs.length)) = tpA vs s lots k := by
  have hlen := reL_length vs s lots k
  obtain ⟨c, hc⟩ : ∃ c, reL vs s lots k = c := ⟨_, rfl⟩
  have hat : ∀ z ∈ lots, SeatsLeft (ovF vs s) lots k z = c[z.toNat]?.getD 0 := fun z hz => by
    have hm := lotsB_mem hl z hz
    have := reL_at (vs := vs) s lots k (i := z.toNat) (by omega)
    rw [hc, Int.toNat_of_nonneg hm.1] at this
    exact this.symm
  have hlow : ∀ i, i < vs.length → -1 ≤ c[i]?.getD 0 := fun i hi => by rw [← hc]; exact re_low hv hs hl hn hk hi
  rw [hc] at hlen ⊢
  have hall : ∀ {i : Nat}, i < vs.length → (allL vs.length)[i]?.getD false = true := fun {i} hi => by simp [allL, hi]
  have h0 : 0 < vs.length := by have := (lotsB_len hl).1; omega
  have hex : ∃ z ∈ lots, (mostL c (allL vs.length))[z.toNat]?.getD false = true := by
    rcases bestS_hit c (allL vs.length) c.length with hb | ⟨i, hi, h1, h2⟩
    · refine ⟨((0 : Nat) : Int), lots_mem hl (by omega), ?_⟩
      rw [Int.toNat_natCast, mostL_at (by omega)]
      have := bestS_ge (c := c) (s := allL vs.length) (k := c.length) (i := 0) (by omega) (hall h0)
      have := hlow 0 h0
      exact ⟨hall h0, by omega⟩
    · exact ⟨(i : Int), lots_mem hl (by omega), by rw [Int.toNat_natCast, mostL_at hi]; exact ⟨h1, h2⟩⟩
  obtain ⟨p1, p2, p3⟩ := pickL_spec hex
  have hpm := lotsB_mem hl _ p1
  have hpe := ((mostL_at (by omega)).1 p2).2
  refine (topL_one (vB_nodup hl) (lots_ne hl) p1 (fun i hi => ?_)).symm
  unfold IsTopR
  rw [hat i hi, hat _ p1]
  have him := lotsB_mem hl i hi
  have hge := bestS_ge (c := c) (s := allL vs.length) (k := c.length) (i := i.toNat) (by omega) (hall (by omega))
  by_cases e : c[i.toNat]?.getD 0 = bestS c (allL vs.length) c.length
  · exact .inr ⟨by omega, p3 i hi ((mostL_at (by omega)).2 ⟨hall (by omega), e⟩)⟩
  · exact .inl (by omega)
end

/-! ### The stack of remainders -/
/-- A party comes below all with greater remainders, above all others. -/
def insR (R : Int → Int) (p : Int) : List Int → List Int
  | [] => [p]
  | q :: t => if R q ≤ R p then p :: q :: t else q :: insR R p t
/-- The parties of an order, from its last one on. -/
def stR (R : Int → Int) : List Int → List Int
  | [] => []
  | p :: t => insR R p (stR R t)
def BefR (R : Int → Int) (ix : Int → Nat) (a b : Int) : Prop := R b < R a ∨ (R a = R b ∧ ix a < ix b)
theorem insR_perm (R : Int → Int) (p : Int) : ∀ l, (insR R p l).Perm (p :: l)
  | [] => .refl _
  | q :: t => by
    unfold insR
    split
    · exact .refl _
    · exact ((insR_perm R p t).cons q).trans (.swap p q t)
theorem stR_perm (R : Int → Int) : ∀ l, (stR R l).Perm l
  | [] => .refl _
  | p :: t => (insR_perm R p _).trans ((stR_perm R t).cons p)
theorem insR_sorted {R : Int → Int} {ix : Int → Nat} {p : Int} : ∀ {l : List Int}, l.Pairwise (BefR R ix) → (∀ z ∈ l, ix p < ix z) → (insR R p l).Pairwise (BefR R ix)
  | [], _, _ => List.pairwise_cons.2 ⟨fun _ h => (by cases h), List.Pairwise.nil⟩
  | q :: t, h, hi => by
    obtain ⟨h1, h2⟩ := List.pairwise_cons.1 h
    unfold insR
    split
    · next hle =>
      refine List.pairwise_cons.2 ⟨fun z hz => ?_, h⟩
      have hzi := hi z hz
      rcases List.mem_cons.1 hz with e | e
      · subst e
        unfold BefR; omega
      · have := h1 z e
        unfold BefR at this ⊢; omega
    · next hle =>
      refine List.pairwise_cons.2 ⟨fun z hz => ?_, insR_sorted h2 (fun z hz => hi z (by simp [hz]))⟩
      rcases List.mem_cons.1 ((insR_perm R p t).mem_iff.1 hz) with e | e
      · subst e
        unfold BefR; omega
      · exact h1 z e
theorem stR_sorted {R : Int → Int} {ix : Int → Nat} : ∀ {l : List Int}, l.Pairwise (fun a b => ix a < ix b) → (stR R l).Pairwise (BefR R ix)
  | [], _ => List.Pairwise.nil
  | p :: t, h => by
    obtain ⟨h1, h2⟩ := List.pairwise_cons.1 h
    exact insR_sorted (stR_sorted h2) (fun z hz => h1 z ((stR_perm R t).mem_iff.1 hz))
theorem idx_pair {l : List Int} (hn : l.Nodup) : l.Pairwise (fun a b => l.idxOf a < l.idxOf b) := by
  refine List.pairwise_iff_getElem.2 (fun i j hi hj hij => ?_)
  have e : ∀ i (hi : i < l.length), l.idxOf l[i] = i := fun i hi => by
    have hm : l[i] ∈ l := List.getElem_mem hi
    have hlt := List.idxOf_lt_length_of_mem hm
    exact (List.getElem_inj hn (h₀ := hlt) (h₁ := hi)).1 (List.getElem_idxOf hlt)
  rw [e i hi, e j hj]; exact hij
theorem stR_length (R : Int → Int) (l : List Int) : (stR R l).length = l.length := (stR_perm R l).length_eq
/-- **What the stack gives** is the greatest remainder that is left. -/
theorem pop_top {R : Int → Int} {lots : List Int} (hn : lots.Nodup) (h0 : lots ≠ []) (hR : ∀ z, 0 ≤ R z) : ∀ k, k ≤ lots.length → (∀ z, SeatsLeft R lots k z = if z ∈ (stR R lots).take k then -1 else R z) ∧ (k < lots.length → topL (SeatsLeft R lots k) lots = (stR R lots)[k]?.getD 0) := by
  have hsl := stR_length R lots
  have hsn : (stR R lots).Nodup := (stR_perm R lots).nodup_iff.2 hn
  have hss := stR_sorted (R := R) (idx_pair hn)
  have htop : ∀ k, k < lots.length → (∀ z, SeatsLeft R lots k z = if z ∈ (stR R lots).take k then -1 else R z) → topL (SeatsLeft R lots k) lots = (stR R lots)[k]?.getD 0 := fun k hk hL => by
    have hk' : k < (stR R lots).length := by omega
    have e : (stR R lots)[k]?.getD 0 = (stR R lots)[k] := by simp [hk']
    rw [e]
    have hnot : ∀ j (hj : j < (stR R lots).length), k ≤ j → (stR R lots)[j] ∉ (stR R lots).take k := fun j hj hkj hm => by
      obtain ⟨i, hi, he⟩ := List.mem_iff_getElem.1 hm
      rw [List.getElem_take] at he
      have : i = j := (List.getElem_inj hsn).1 he
      simp at hi
      omega
    refine topL_one hn h0 ((stR_perm R lots).mem_iff.1 (List.getElem_mem hk')) (fun i hi => ?_)
    obtain ⟨j, hj, rfl⟩ := List.mem_iff_getElem.1 ((stR_perm R lots).mem_iff.2 hi)
    unfold IsTopR
    rw [hL, hL, if_neg (hnot k hk' (Nat.le_refl _))]
    rcases Nat.lt_trichotomy j k with h | h | h
    · left
      rw [if_pos (List.mem_take_iff_getElem.2 ⟨j, by omega, rfl⟩)]
      have := hR (stR R lots)[k]
      omega
    · subst h
      right
      rw [if_neg (hnot j hk' (Nat.le_refl _))]
      exact ⟨rfl, Nat.le_refl _⟩
    · rw [if_neg (hnot j hj (by omega))]
      have := (List.pairwise_iff_getElem.1 hss) k j hk' hj h
      simp only [BefR] at this
      omega
  intro k
  induction k with
  | zero => exact fun hk => ⟨fun z => by simp [SeatsLeft, upR], fun h => htop 0 h (fun z => by simp [SeatsLeft, upR])⟩
  | succ k ih =>
    intro hk
    obtain ⟨i1, i2⟩ := ih (by omega)
    have hk' : k < (stR R lots).length := by omega
    have hL : ∀ z, SeatsLeft R lots (k + 1) z = if z ∈ (stR R lots).take (k + 1) then -1 else R z := fun z => by
      rw [Left_succ, i2 (by omega)]
      unfold gone
      have e : (stR R lots)[k]?.getD 0 = (stR R lots)[k] := by simp [hk']
      rw [i1, e, List.take_succ_eq_append_getElem hk']
      by_cases h : z = (stR R lots)[k]
      · rw [if_pos h, if_pos (List.mem_append.2 (.inr (List.mem_singleton.2 h)))]
      · rw [if_neg h]
        by_cases g : z ∈ (stR R lots).take k
        · rw [if_pos g, if_pos (List.mem_append.2 (.inl g))]
        · rw [if_neg g, if_neg (fun hm => by
            rcases List.mem_append.1 hm with e | e
            · exact g e
            · exact h (List.mem_singleton.1 e))]
    exact ⟨hL, fun h => htop (k + 1) h hL⟩

end Go.Proofs.Ytmbhcgdapglbgaa
