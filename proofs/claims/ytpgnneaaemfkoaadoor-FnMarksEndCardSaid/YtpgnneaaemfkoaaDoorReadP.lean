/-
  The ballot of marks, as a list, and the bits of the marks that candidates have. Of no memory.
-/
import Derived.Test.YtpgnneaaemfkoaaDoorMarks
import Derived.Lib.TrailingZeros
namespace Go.Proofs.YtpgnneaaemfkoaaDoor

/-- The candidates among the first k who have the mark r. -/
def withTo (zs : List Int) (r : Int) (k : Nat) : List Int := ((List.range k).filter fun i => zs[i]?.getD 0 == r).map fun (i : Nat) => (i : Int)
theorem withTo_zero (zs : List Int) (r : Int) : withTo zs r 0 = [] := rfl
theorem withTo_yes {zs : List Int} {r : Int} {k : Nat} (h : zs[k]?.getD 0 = r) : withTo zs r (k + 1) = withTo zs r k ++ [(k : Int)] := by
  simp [withTo, List.range_succ, List.filter_append, h]
theorem withTo_no {zs : List Int} {r : Int} {k : Nat} (h : zs[k]?.getD 0 ≠ r) : withTo zs r (k + 1) = withTo zs r k := by
  simp [withTo, List.range_succ, List.filter_append, h]
theorem withTo_len (zs : List Int) (r : Int) (k : Nat) : (withTo zs r k).length ≤ k := by
  have := List.length_filter_le (fun i => zs[i]?.getD 0 == r) (List.range k)
  simpa [withTo] using this
def withL (zs : List Int) (r : Int) : List Int := withTo zs r zs.length
theorem withL_mem {zs : List Int} {r x : Int} : x ∈ withL zs r ↔ ∃ i : Nat, i < zs.length ∧ zs[i]?.getD 0 = r ∧ (i : Int) = x := by
  simp [withL, withTo, List.mem_map, List.mem_filter, and_assoc]
theorem withL_one {zs : List Int} {r x : Int} (h : withL zs r = [x]) : ∃ i : Nat, x = (i : Int) ∧ i < zs.length ∧ zs[i]?.getD 0 = r ∧ ∀ j, j < zs.length → zs[j]?.getD 0 = r → j = i := by
  obtain ⟨i, h1, h2, h3⟩ := withL_mem.1 (by rw [h]; simp : x ∈ withL zs r)
  refine ⟨i, h3.symm, h1, h2, fun j hj hr => ?_⟩
  have : (j : Int) ∈ withL zs r := withL_mem.2 ⟨j, hj, hr, rfl⟩
  rw [h, List.mem_singleton] at this
  omega

/-- The ballot of the ranks rs, one after the other. -/
def readOn (zs : List Int) : List Nat → List Int
  | [] => []
  | r :: rs => if 1 < (withL zs (r : Int)).length then [] else withL zs (r : Int) ++ readOn zs rs
/-- .. from the rank r on. -/
def readFrom (zs : List Int) (r : Nat) : List Int := readOn zs (List.range' r (10 - r))
theorem readFrom_end (zs : List Int) : readFrom zs 10 = [] := rfl
theorem readFrom_step (zs : List Int) (r : Nat) (h : r < 10) : readFrom zs r = if 1 < (withL zs (r : Int)).length then [] else withL zs (r : Int) ++ readFrom zs (r + 1) := by
  unfold readFrom
  rw [show 10 - r = (10 - (r + 1)) + 1 from by omega, List.range'_succ, readOn]
theorem readFrom_pass (zs : List Int) {r : Nat} (h : r < 10) (h0 : withL zs (r : Int) = []) : readFrom zs r = readFrom zs (r + 1) := by
  rw [readFrom_step zs r h, h0]; rfl
theorem readFrom_skip (zs : List Int) : ∀ (d r : Nat), r + d ≤ 10 → (∀ m, r ≤ m → m < r + d → withL zs (m : Int) = []) → readFrom zs r = readFrom zs (r + d)
  | 0, _, _, _ => rfl
  | d + 1, r, hr, h => by
    rw [readFrom_pass zs (by omega) (h r (Nat.le_refl _) (by omega)), readFrom_skip zs d (r + 1) (by omega) (fun m h1 h2 => h m (by omega) (by omega))]
    congr 1; omega
/-- What MarksRead returns. -/
def readL (zs : List Int) : List Int := if rankB zs = true then readFrom zs 1 else []
theorem readL_yes {zs : List Int} (h : rankB zs = true) : readL zs = readFrom zs 1 := by rw [readL, if_pos h]
theorem readL_no {zs : List Int} (h : rankB zs = false) : readL zs = [] := by simp [readL, h]

theorem readOn_short (zs : List Int) : ∀ rs : List Nat, (readOn zs rs).length ≤ rs.length
  | [] => Nat.le_refl _
  | r :: rs => by
    rw [readOn]
    split
    · simp
    · have := readOn_short zs rs
      rw [List.length_append, List.length_cons]; omega
theorem readL_short (zs : List Int) : (readL zs).length ≤ 9 := by
  unfold readL
  split
  · exact readOn_short zs _
  · simp

/-- How many of the first k have the mark m. -/
theorem count_step (zs : List Int) (m k : Nat) : (withTo zs (m : Int) (k + 1)).length = (withTo zs (m : Int) k).length + (if zs[k]?.getD 0 = (m : Int) then 1 else 0) := by
  by_cases h : zs[k]?.getD 0 = (m : Int)
  · rw [withTo_yes h, if_pos h]; simp
  · rw [withTo_no h, if_neg h]; simp

/-- The bits of the marks that the first k have, and of those that several have. -/
def bitsTo (zs : List Int) : Nat → Nat × Nat
  | 0 => (0, 0)
  | k + 1 => if zs[k]?.getD 0 = 0 then bitsTo zs k else
      ((bitsTo zs k).1 ||| 2 ^ (zs[k]?.getD 0).toNat, (bitsTo zs k).2 ||| ((bitsTo zs k).1 &&& 2 ^ (zs[k]?.getD 0).toNat))
theorem bitsTo_zero {zs : List Int} {k : Nat} (h : zs[k]?.getD 0 = 0) : bitsTo zs (k + 1) = bitsTo zs k := by rw [bitsTo, if_pos h]
theorem bitsTo_mark {zs : List Int} {k m : Nat} (h : zs[k]?.getD 0 = (m : Int)) (hm : m ≠ 0) : bitsTo zs (k + 1) = ((bitsTo zs k).1 ||| 2 ^ m, (bitsTo zs k).2 ||| ((bitsTo zs k).1 &&& 2 ^ m)) := by
  rw [bitsTo, if_neg (by omega), h, Int.toNat_natCast]
theorem bitsTo_test (zs : List Int) (h9 : ∀ i, i < zs.length → 0 ≤ zs[i]?.getD 0 ∧ zs[i]?.getD 0 ≤ 9) : ∀ k, k ≤ zs.length → ∀ m : Nat,
    (bitsTo zs k).1.testBit m = decide (1 ≤ m ∧ 1 ≤ (withTo zs (m : Int) k).length) ∧ (bitsTo zs k).2.testBit m = decide (1 ≤ m ∧ 2 ≤ (withTo zs (m : Int) k).length)
  | 0, _, m => by simp [bitsTo, withTo]
  | k + 1, hk, m => by
    obtain ⟨e1, e2⟩ := bitsTo_test zs h9 k (by omega) m
    obtain ⟨z0, z9⟩ := h9 k (by omega)
    obtain ⟨q, hq⟩ := Int.eq_ofNat_of_zero_le z0
    have hc := count_step zs m k
    rw [hq] at hc
    by_cases h0 : q = 0
    · subst h0
      rw [bitsTo_zero hq, e1, e2, hc]
      by_cases hm : m = 0
      · subst hm; simp
      · rw [if_neg (by omega)]; simp
    · rw [bitsTo_mark hq h0]
      simp only [Nat.testBit_or, Nat.testBit_and, Nat.testBit_two_pow, e1, e2, hc]
      by_cases hm : q = m
      · subst hm
        rw [if_pos rfl]
        constructor
        · simp; omega
        · simp only [decide_true, Bool.and_true]
          rw [← Bool.decide_or]
          exact decide_eq_decide.2 (by omega)
      · rw [if_neg (by omega)]
        simp [hm]
theorem lt_of_test {x : Nat} (h : ∀ m, x.testBit m = true → m < 10) : x < 1024 := by
  apply Nat.lt_pow_two_of_testBit (n := 10)
  intro i hi
  cases hb : x.testBit i with
  | false => rfl
  | true => have := h i hb; omega
theorem count_none {zs : List Int} (h9 : ∀ i, i < zs.length → 0 ≤ zs[i]?.getD 0 ∧ zs[i]?.getD 0 ≤ 9) (m k : Nat) (hk : k ≤ zs.length) (hm : 10 ≤ m) : (withTo zs (m : Int) k).length = 0 := by
  induction k with
  | zero => rfl
  | succ k ih =>
    have := h9 k (by omega)
    rw [count_step, ih (by omega), if_neg (by omega)]
theorem bits_small {zs : List Int} (h9 : ∀ i, i < zs.length → 0 ≤ zs[i]?.getD 0 ∧ zs[i]?.getD 0 ≤ 9) (k : Nat) (hk : k ≤ zs.length) : (bitsTo zs k).1 < 1024 ∧ (bitsTo zs k).2 < 1024 := by
  constructor
  · refine lt_of_test fun m hm => ?_
    rw [(bitsTo_test zs h9 k hk m).1] at hm
    have h1 := of_decide_eq_true hm
    rcases Nat.lt_or_ge m 10 with h2 | h2
    · exact h2
    · have := count_none h9 m k hk h2; omega
  · refine lt_of_test fun m hm => ?_
    rw [(bitsTo_test zs h9 k hk m).2] at hm
    have h1 := of_decide_eq_true hm
    rcases Nat.lt_or_ge m 10 with h2 | h2
    · exact h2
    · have := count_none h9 m k hk h2; omega

/-- The lowest bit, and what is left without it. -/
theorem low_facts : ∀ x : Nat, x < 1024 → x ≠ 0 → Lib.ctz 64 x < 10 ∧ x.testBit (Lib.ctz 64 x) = true ∧ (x &&& (x - 1)) < x ∧ ∀ m, m < 10 → (m < Lib.ctz 64 x → x.testBit m = false) ∧ (x &&& (x - 1)).testBit m = (x.testBit m && !(m == Lib.ctz 64 x)) := by
  decide +kernel

/-- The bits of the marks that are read. -/
def readable (had shared : Nat) : Nat := if shared = 0 then had else had &&& (2 ^ Lib.ctz 64 shared - 1)
theorem readable_test {had shared : Nat} (h2 : shared < 1024) (m : Nat) : (readable had shared).testBit m = (had.testBit m && decide (∀ j, j ≤ m → shared.testBit j = false)) := by
  unfold readable
  by_cases h0 : shared = 0
  · subst h0; simp
  · rw [if_neg h0, Nat.testBit_and, Nat.testBit_two_pow_sub_one]
    congr 1
    obtain ⟨f1, f2, _, f4⟩ := low_facts shared h2 h0
    apply decide_eq_decide.2
    constructor
    · intro h j hj
      exact (f4 j (by omega)).1 (by omega)
    · intro h
      rcases Nat.lt_or_ge m (Lib.ctz 64 shared) with h3 | h3
      · exact h3
      · have := h _ h3; rw [f2] at this; cases this
theorem readable_small {had shared : Nat} (h1 : had < 1024) : readable had shared < 1024 := by
  unfold readable
  split
  · exact h1
  · exact Nat.lt_of_le_of_lt Nat.and_le_left h1

/-- What the loop over the bits has read when the bits from r on are left. -/
def Left (zs : List Int) (r x : Nat) : Prop := (1 ≤ r ∧ r ≤ 10) ∧ x < 1024 ∧ (∀ j, j < r → j < 10 → (bitsTo zs zs.length).2.testBit j = false) ∧ ∀ m, m < 10 → x.testBit m = ((readable (bitsTo zs zs.length).1 (bitsTo zs zs.length).2).testBit m && decide (r ≤ m))
theorem left_start {zs : List Int} (hr : rankB zs = true) : Left zs 1 (readable (bitsTo zs zs.length).1 (bitsTo zs zs.length).2) := by
  have h9 := fun i hi => rankB_at hr i hi
  obtain ⟨b1, b2⟩ := bits_small h9 zs.length (Nat.le_refl _)
  refine ⟨by omega, readable_small b1, fun j hj _ => ?_, fun m hm => ?_⟩
  · obtain rfl : j = 0 := by omega
    rw [(bitsTo_test zs h9 _ (Nat.le_refl _) 0).2]; simp
  · by_cases h0 : m = 0
    · subst h0
      rw [readable_test b2 0, (bitsTo_test zs h9 _ (Nat.le_refl _) 0).1]; simp
    · simp [show 1 ≤ m from by omega]
/-- A round: the candidate with the lowest mark that is left. -/
theorem left_step {zs : List Int} (hr : rankB zs = true) {r x : Nat} (h : Left zs r x) (hx : x ≠ 0) : ∃ i : Nat, i < zs.length ∧ zs[i]?.getD 0 = ((Lib.ctz 64 x : Nat) : Int) ∧ (∀ j, j < i → zs[j]?.getD 0 ≠ ((Lib.ctz 64 x : Nat) : Int)) ∧
    readFrom zs r = (i : Int) :: readFrom zs (Lib.ctz 64 x + 1) ∧ r ≤ Lib.ctz 64 x ∧ Left zs (Lib.ctz 64 x + 1) (x &&& (x - 1)) := by
  have h9 := fun i hi => rankB_at hr i hi
  obtain ⟨_, b2⟩ := bits_small h9 zs.length (Nat.le_refl _)
  have hT := bitsTo_test zs h9 zs.length (Nat.le_refl _)
  obtain ⟨hr10, hx10, hno, hL⟩ := h
  obtain ⟨f1, f2, f3, f4⟩ := low_facts x hx10 hx
  obtain ⟨t, ht⟩ : ∃ t, Lib.ctz 64 x = t := ⟨_, rfl⟩
  rw [ht] at f1 f2 f4 ⊢
  have hLt := hL t f1
  rw [f2, readable_test b2 t] at hLt
  have hLt := hLt.symm
  simp only [Bool.and_eq_true, decide_eq_true_eq] at hLt
  obtain ⟨⟨g1, g2⟩, g3⟩ := hLt
  have c1 := (hT t).1; rw [g1] at c1
  have c2 := (hT t).2; rw [g2 t (Nat.le_refl _)] at c2
  have c1 := of_decide_eq_true c1.symm
  have c2 := of_decide_eq_false c2.symm
  have hone : (withL zs (t : Int)).length = 1 := by unfold withL; omega
  obtain ⟨y, hy⟩ := List.length_eq_one_iff.1 hone
  obtain ⟨i, rfl, hi, hz, huniq⟩ := withL_one hy
  have hskip : ∀ m, r ≤ m → m < t → withL zs (m : Int) = [] := fun m hm1 hm2 => by
    have e := (f4 m (by omega)).1 hm2
    rw [hL m (by omega), readable_test b2 m] at e
    have hd : decide (∀ j, j ≤ m → (bitsTo zs zs.length).2.testBit j = false) = true := decide_eq_true fun j hj => g2 j (by omega)
    rw [hd, decide_eq_true hm1, Bool.and_true, Bool.and_true, (hT m).1] at e
    have e2 := of_decide_eq_false e
    have ht1 : t ≠ 0 := by omega
    by_cases hm0 : m = 0
    · -- the mark 0 is below r
      subst hm0
      exfalso
      have := hL 0 (by omega)
      omega
    · have : (withTo zs (m : Int) zs.length).length = 0 := by omega
      exact List.length_eq_zero_iff.1 this
  refine ⟨i, hi, hz, fun j hj e => ?_, ?_, g3, ?_, by omega, fun j hj hj10 => ?_, fun m hm => ?_⟩
  · have := huniq j (by omega) e; omega
  · have e := readFrom_skip zs (t - r) r (by omega) (fun m h1 h2 => hskip m h1 (by omega))
    rw [show r + (t - r) = t from by omega] at e
    rw [e, readFrom_step zs t f1, hy]; rfl
  · omega
  · exact g2 j (by omega)
  · rw [(f4 m hm).2, hL m hm]
    by_cases e : m = t
    · subst e; simp
    · have e1 : (m == t) = false := by simpa using e
      rw [e1, Bool.not_false, Bool.and_true]
      by_cases hlt : m < t
      · have := (f4 m hm).1 hlt
        rw [hL m hm] at this
        rw [this, decide_eq_false (by omega), Bool.and_false]
      · congr 1
        exact decide_eq_decide.2 (by omega)
/-- No bit is left: the ballot ends. -/
theorem left_end {zs : List Int} (hr : rankB zs = true) : ∀ (d r : Nat), r + d = 10 → 1 ≤ r → Left zs r 0 → readFrom zs r = []
  | 0, r, hd, _, _ => by obtain rfl : r = 10 := by omega
                         rfl
  | d + 1, r, hd, h1, h => by
    have h9 := fun i hi => rankB_at hr i hi
    obtain ⟨_, b2⟩ := bits_small h9 zs.length (Nat.le_refl _)
    have hT := bitsTo_test zs h9 zs.length (Nat.le_refl _)
    obtain ⟨hr10, hx10, hno, hL⟩ := h
    rw [readFrom_step zs r (by omega)]
    by_cases hs : 1 < (withL zs (r : Int)).length
    · rw [if_pos hs]
    · rw [if_neg hs]
      have hsh : (bitsTo zs zs.length).2.testBit r = false := by
        rw [(hT r).2]; apply decide_eq_false; unfold withL at hs; omega
      have hno' : ∀ j, j < r + 1 → j < 10 → (bitsTo zs zs.length).2.testBit j = false := fun j hj hj10 => by
        by_cases e : j = r
        · subst e; exact hsh
        · exact hno j (by omega) hj10
      have e := hL r (by omega)
      rw [Nat.zero_testBit, readable_test b2 r, decide_eq_true (Nat.le_refl r), Bool.and_true,
        decide_eq_true (fun j hj => hno' j (by omega) (by omega)), Bool.and_true, (hT r).1] at e
      have e2 := of_decide_eq_false e.symm
      have h0 : withL zs (r : Int) = [] := by
        apply List.length_eq_zero_iff.1
        unfold withL; omega
      rw [h0, List.nil_append]
      refine left_end hr d (r + 1) (by omega) (by omega) ⟨by omega, by omega, hno', fun m hm => ?_⟩
      rw [Nat.zero_testBit]
      have e3 := hL m hm
      rw [Nat.zero_testBit] at e3
      have e3 := e3.symm
      simp only [Bool.and_eq_false_iff, decide_eq_false_iff_not] at e3
      symm
      simp only [Bool.and_eq_false_iff, decide_eq_false_iff_not]
      rcases e3 with e4 | e4
      · exact .inl e4
      · exact .inr (by omega)

end Go.Proofs.YtpgnneaaemfkoaaDoor
