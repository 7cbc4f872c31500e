/-
  Fractions, as pairs: what the functions of chapter 5 return; the laws of their promises. Of no memory.
  Seats by divisors over lists: what is valid, who gets the next seat, what n rounds give, and the check. Of no memory.
  choicesUpTo and sumOf of impl: one to five numbers from 0 to a greatest one, and their sum. They write into no memory.
-/
import Derived.Test.YtgcocdacofpglaaGrp3
namespace Go.Proofs.Ytgcocdacofpglaa

/-- Bounds. -/
theorem mul_bound {x y : Int} (hx : -9999999 ≤ x ∧ x ≤ 9999999) (hy : 0 ≤ y ∧ y ≤ 9999999) : -99999980000001 ≤ x * y ∧ x * y ≤ 99999980000001 := by
  have h1 : x * y ≤ 9999999 * y := Int.mul_le_mul_of_nonneg_right hx.2 hy.1
  have h2 : -9999999 * y ≤ x * y := Int.mul_le_mul_of_nonneg_right hx.1 hy.1
  omega
theorem mul_bound2 {x y : Int} (hx : -9999999 ≤ x ∧ x ≤ 9999999) (hy : -9999999 ≤ y ∧ y ≤ 9999999) : -99999980000001 ≤ x * y ∧ x * y ≤ 99999980000001 := by
  rcases Int.le_total 0 y with h | h
  · exact mul_bound hx ⟨h, hy.2⟩
  · have := mul_bound hx (y := -y) ⟨by omega, by omega⟩
    rw [Int.mul_neg] at this
    omega

theorem fracB_of {f : Fr} (h1 : -9999999 ≤ f.1 ∧ f.1 ≤ 9999999) (h2 : 1 ≤ f.2 ∧ f.2 ≤ 9999999) (h3 : gcdI f.1 f.2 = 1) : fracB f = true := (fracB_iff f).2 ⟨h1, h2, h3⟩
theorem fracB_den {f : Fr} (h : fracB f = true) : 0 < f.2 := by have := (fracB_iff f).1 h; omega
/-- A number is not made greater by division. -/
theorem ofF_bound {n d : Int} (hd : 0 < d) : (ofF n d).1.natAbs ≤ n.natAbs ∧ 1 ≤ (ofF n d).2 ∧ (ofF n d).2 ≤ d := by
  have hg := gcdI_pos (n := n) hd
  obtain ⟨h1, h2⟩ := ofF_mul n d
  have hr := (ofF_red (n := n) hd).1
  refine ⟨?_, by omega, ?_⟩
  · have e1 : (ofF n d).1.natAbs * gcdI n d = n.natAbs := by
      have := congrArg Int.natAbs h1
      rwa [Int.natAbs_mul, Int.natAbs_natCast] at this
    rw [← e1]; exact Nat.le_mul_of_pos_right _ hg
  · have h3 : (ofF n d).2 * 1 ≤ (ofF n d).2 * (gcdI n d : Int) := Int.mul_le_mul_of_nonneg_left (by omega) (by omega)
    omega
theorem ofF_self {f : Fr} (h : Red f) : ofF f.1 f.2 = f := red_eq (ofF_red h.1) h ofF_same
/-- The fraction of a number hangs on the number alone. -/
theorem ofF_same_eq {n d n' d' : Int} (hd : 0 < d) (hd' : 0 < d') (h : n * d' = n' * d) : ofF n d = ofF n' d' :=
  red_eq (ofF_red hd) (ofF_red hd') ((SameF.trans (b := (n, d)) (by show d ≠ 0; omega) ofF_same (SameF.trans (b := (n', d')) (by show d' ≠ 0; omega) h (same_symm ofF_same))))

/-- FracOf. -/
def ofOk (n d : Int) : Bool := inB n (-9999999) 9999999 && inB d 1 9999999
def ofR (n d : Int) : Fr := if ofOk n d = true then ofF n d else (0, 0)
theorem ofOk_iff (n d : Int) : ofOk n d = true ↔ (-9999999 ≤ n ∧ n ≤ 9999999) ∧ 1 ≤ d ∧ d ≤ 9999999 := by simp [ofOk, inB]
theorem ofR_yes {n d : Int} (h : ofOk n d = true) : ofR n d = ofF n d := by rw [ofR, if_pos h]
theorem ofR_no {n d : Int} (h : ofOk n d = false) : ofR n d = (0, 0) := by rw [ofR, h]; rfl
/-- FracAdd, FracTimes. -/
def addOk (a b : Fr) : Bool := fracB a && (fracB b && fracB (ofF (sumF a b).1 (sumF a b).2))
def addR (a b : Fr) : Fr := if addOk a b = true then ofF (sumF a b).1 (sumF a b).2 else (0, 0)
def mulOk (a b : Fr) : Bool := fracB a && (fracB b && fracB (ofF (proF a b).1 (proF a b).2))
def mulR (a b : Fr) : Fr := if mulOk a b = true then ofF (proF a b).1 (proF a b).2 else (0, 0)
/-- FracLess. -/
def lessB (a b : Fr) : Bool := fracB a && (fracB b && lessF a b)
theorem addOk_iff (a b : Fr) : addOk a b = true ↔ fracB a = true ∧ fracB b = true ∧ fracB (ofF (sumF a b).1 (sumF a b).2) = true := by simp [addOk]
theorem mulOk_iff (a b : Fr) : mulOk a b = true ↔ fracB a = true ∧ fracB b = true ∧ fracB (ofF (proF a b).1 (proF a b).2) = true := by simp [mulOk]
theorem lessB_iff (a b : Fr) : lessB a b = true ↔ fracB a = true ∧ fracB b = true ∧ lessF a b = true := by simp [lessB]
theorem addR_yes {a b : Fr} (h : addOk a b = true) : addR a b = ofF (sumF a b).1 (sumF a b).2 := by rw [addR, if_pos h]
theorem addR_no {a b : Fr} (h : addOk a b = false) : addR a b = (0, 0) := by rw [addR, h]; rfl
theorem mulR_yes {a b : Fr} (h : mulOk a b = true) : mulR a b = ofF (proF a b).1 (proF a b).2 := by rw [mulR, if_pos h]
theorem mulR_no {a b : Fr} (h : mulOk a b = false) : mulR a b = (0, 0) := by rw [mulR, h]; rfl
/-- What is summed up or multiplied fits into an int. -/
theorem sumF_bound {a b : Fr} (ha : fracB a = true) (hb : fracB b = true) : (-199999960000002 ≤ (sumF a b).1 ∧ (sumF a b).1 ≤ 199999960000002) ∧ 0 < (sumF a b).2 ∧ (sumF a b).2 ≤ 99999980000001 := by
  obtain ⟨a1, a2, _⟩ := (fracB_iff a).1 ha
  obtain ⟨b1, b2, _⟩ := (fracB_iff b).1 hb
  have h1 := mul_bound a1 (y := b.2) ⟨by omega, by omega⟩
  have h2 := mul_bound b1 (y := a.2) ⟨by omega, by omega⟩
  have h3 := mul_bound (x := a.2) ⟨by omega, by omega⟩ (y := b.2) ⟨by omega, by omega⟩
  have h4 := sumF_pos (a := a) (b := b) (by omega) (by omega)
  unfold sumF at *
  exact ⟨⟨by omega, by omega⟩, h4, h3.2⟩
theorem proF_bound {a b : Fr} (ha : fracB a = true) (hb : fracB b = true) : (-99999980000001 ≤ (proF a b).1 ∧ (proF a b).1 ≤ 99999980000001) ∧ 0 < (proF a b).2 ∧ (proF a b).2 ≤ 99999980000001 := by
  obtain ⟨a1, a2, _⟩ := (fracB_iff a).1 ha
  obtain ⟨b1, b2, _⟩ := (fracB_iff b).1 hb
  have h1 := mul_bound2 a1 b1
  have h3 := mul_bound (x := a.2) ⟨by omega, by omega⟩ (y := b.2) ⟨by omega, by omega⟩
  have h4 := proF_pos (a := a) (b := b) (by omega) (by omega)
  unfold proF at *
  exact ⟨h1, h4, h3.2⟩
theorem addR_valid {a b : Fr} (h : addOk a b = true) : fracB (addR a b) = true := by rw [addR_yes h]; exact ((addOk_iff a b).1 h).2.2
theorem mulR_valid {a b : Fr} (h : mulOk a b = true) : fracB (mulR a b) = true := by rw [mulR_yes h]; exact ((mulOk_iff a b).1 h).2.2

/-- **A fraction is reduced** (promise 29). -/
theorem of_valid {n d : Int} (h : ofOk n d = true) : fracB (ofR n d) = true ∧ (ofR n d).1 * d = n * (ofR n d).2 := by
  obtain ⟨h1, h2⟩ := (ofOk_iff n d).1 h
  have hd : 0 < d := by omega
  rw [ofR_yes h]
  obtain ⟨b1, b2, b3⟩ := ofF_bound (n := n) hd
  refine ⟨fracB_of ⟨by omega, by omega⟩ ⟨by omega, by omega⟩ (ofF_red hd).2, ofF_same⟩
theorem of_three {n d : Int} (h : ofOk n d = true) (h3 : ofOk (3 * n) (3 * d) = true) : ofR (3 * n) (3 * d) = ofR n d := by
  obtain ⟨h1, h2⟩ := (ofOk_iff n d).1 h
  rw [ofR_yes h, ofR_yes h3]
  refine ofF_same_eq (by omega) (by omega) ?_
  rw [Int.mul_comm 3 n, Int.mul_assoc]
/-- **Sums have no order** (promise 30). -/
theorem add_comm_ok (a b : Fr) : addOk b a = addOk a b ∧ addR b a = addR a b := by
  have e : addOk b a = addOk a b := by
    rw [Bool.eq_iff_iff, addOk_iff, addOk_iff, sumF_comm b a]
    exact ⟨fun ⟨h1, h2, h3⟩ => ⟨h2, h1, h3⟩, fun ⟨h1, h2, h3⟩ => ⟨h2, h1, h3⟩⟩
  exact ⟨e, by unfold addR; rw [e, sumF_comm b a]⟩
theorem neg_valid {a : Fr} (h : fracB a = true) : fracB (0 - a.1, a.2) = true := by
  obtain ⟨h1, h2, h3⟩ := (fracB_iff a).1 h
  refine fracB_of ⟨by show -9999999 ≤ 0 - a.1; omega, by show 0 - a.1 ≤ 9999999; omega⟩ h2 ?_
  show gcdI (0 - a.1) a.2 = 1
  unfold gcdI at h3 ⊢
  rw [Int.zero_sub, Int.natAbs_neg]; exact h3
theorem add_back {a b : Fr} (h : addOk a b = true) : addOk (addR a b) (0 - a.1, a.2) = true ∧ addR (addR a b) (0 - a.1, a.2) = b := by
  obtain ⟨ha, hb, hs⟩ := (addOk_iff a b).1 h
  have da := fracB_den ha
  have db := fracB_den hb
  have hsd := sumF_pos (a := a) (b := b) da db
  have hv := addR_valid h
  have dr := fracB_den hv
  have hS : SameF (addR a b) (sumF a b) := by rw [addR_yes h]; exact ofF_same
  have hback : SameF (sumF (addR a b) (0 - a.1, a.2)) b := by
    refine SameF.trans (b := sumF (sumF a b) (0 - a.1, a.2)) ?_ (sumF_same hS) (SameF.trans (b := (b.1 * a.2 * a.2, b.2 * a.2 * a.2)) ?_ (sum_back a b) ?_)
    · have := sumF_pos (a := sumF a b) (b := (0 - a.1, a.2)) hsd da
      omega
    · show b.2 * a.2 * a.2 ≠ 0
      have := Int.mul_pos (Int.mul_pos db da) da
      omega
    · have := scale_same b (a.2 * a.2)
      rwa [← Int.mul_assoc, ← Int.mul_assoc] at this
  have hd2 : 0 < (sumF (addR a b) (0 - a.1, a.2)).2 := sumF_pos (a := addR a b) (b := (0 - a.1, a.2)) dr da
  have he : ofF (sumF (addR a b) (0 - a.1, a.2)).1 (sumF (addR a b) (0 - a.1, a.2)).2 = b :=
    red_eq (ofF_red hd2) (fracB_red hb) (SameF.trans (b := sumF (addR a b) (0 - a.1, a.2)) (by omega) ofF_same hback)
  have hok : addOk (addR a b) (0 - a.1, a.2) = true := (addOk_iff _ _).2 ⟨hv, neg_valid ha, by rw [he]; exact hb⟩
  exact ⟨hok, by rw [addR_yes hok, he]⟩
/-- **A sum is exact** (promise 31), **a product, too** (promise 32). -/
theorem add_exact {a b : Fr} (h : addOk a b = true) (h2 : ofOk (a.1 * b.2 + b.1 * a.2) (a.2 * b.2) = true) : ofR (a.1 * b.2 + b.1 * a.2) (a.2 * b.2) = addR a b := by rw [ofR_yes h2, addR_yes h]; rfl
theorem mul_comm_ok (a b : Fr) : mulOk b a = mulOk a b ∧ mulR b a = mulR a b := by
  have e : mulOk b a = mulOk a b := by
    rw [Bool.eq_iff_iff, mulOk_iff, mulOk_iff, proF_comm b a]
    exact ⟨fun ⟨h1, h2, h3⟩ => ⟨h2, h1, h3⟩, fun ⟨h1, h2, h3⟩ => ⟨h2, h1, h3⟩⟩
  exact ⟨e, by unfold mulR; rw [e, proF_comm b a]⟩
theorem mul_exact {a b : Fr} (h : mulOk a b = true) (h2 : ofOk (a.1 * b.1) (a.2 * b.2) = true) : ofR (a.1 * b.1) (a.2 * b.2) = mulR a b := by rw [ofR_yes h2, mulR_yes h]; rfl
/-- **Products of sums are sums of products** (promise 33). -/
theorem over_exact {a b k : Fr} (h : addOk a b = true) (h1 : mulOk a k = true) (h2 : mulOk b k = true) (h3 : mulOk (addR a b) k = true) (h4 : addOk (mulR a k) (mulR b k) = true) : addR (mulR a k) (mulR b k) = mulR (addR a b) k := by
  obtain ⟨ha, hb, _⟩ := (addOk_iff a b).1 h
  have hk := ((mulOk_iff a k).1 h1).2.1
  have da := fracB_den ha
  have db := fracB_den hb
  have dk := fracB_den hk
  have dx := fracB_den (mulR_valid h1)
  have dy := fracB_den (mulR_valid h2)
  have ds := fracB_den (addR_valid h)
  have sx : SameF (mulR a k) (proF a k) := by rw [mulR_yes h1]; exact ofF_same
  have sy : SameF (mulR b k) (proF b k) := by rw [mulR_yes h2]; exact ofF_same
  have ss : SameF (addR a b) (sumF a b) := by rw [addR_yes h]; exact ofF_same
  have s1 : SameF (addR (mulR a k) (mulR b k)) (sumF (mulR a k) (mulR b k)) := by rw [addR_yes h4]; exact ofF_same
  have s2 : SameF (mulR (addR a b) k) (proF (addR a b) k) := by rw [mulR_yes h3]; exact ofF_same
  have dpa := proF_pos (a := a) (b := k) da dk
  have dpb := proF_pos (a := b) (b := k) db dk
  have t1 : SameF (sumF (mulR a k) (mulR b k)) (sumF (proF a k) (mulR b k)) := sumF_same sx
  have t2 : SameF (sumF (proF a k) (mulR b k)) (sumF (proF a k) (proF b k)) := by
    rw [sumF_comm (proF a k) (mulR b k), sumF_comm (proF a k) (proF b k)]; exact sumF_same sy
  have t3 : SameF (proF (addR a b) k) (proF (sumF a b) k) := proF_same ss
  have t4 := over_same a b k
  refine red_eq (fracB_red (addR_valid h4)) (fracB_red (mulR_valid h3)) ?_
  have n1 : (sumF (mulR a k) (mulR b k)).2 ≠ 0 := by have := sumF_pos (a := mulR a k) (b := mulR b k) dx dy; omega
  have n2 : (sumF (proF a k) (mulR b k)).2 ≠ 0 := by have := sumF_pos (a := proF a k) (b := mulR b k) dpa dy; omega
  have n3 : (sumF (proF a k) (proF b k)).2 ≠ 0 := by have := sumF_pos (a := proF a k) (b := proF b k) dpa dpb; omega
  have n4 : (proF (sumF a b) k).2 ≠ 0 := by have := proF_pos (a := sumF a b) (b := k) (sumF_pos da db) dk; omega
  have n5 : (proF (addR a b) k).2 ≠ 0 := by have := proF_pos (a := addR a b) (b := k) ds dk; omega
  exact SameF.trans n1 s1 (SameF.trans n2 t1 (SameF.trans n3 t2 (SameF.trans n4 (same_symm t4) (SameF.trans n5 (same_symm t3) (same_symm s2)))))
/-- **One of two fractions is less, or both are equal** (promise 34). -/
theorem less_law {a b : Fr} (ha : fracB a = true) (hb : fracB b = true) : (lessB a b && lessB b a) = false ∧ (decide (a = b) = (!lessB a b && !lessB b a)) := by
  have h := less_one (fracB_red ha) (fracB_red hb)
  have e1 : lessB a b = lessF a b := by simp [lessB, ha, hb]
  have e2 : lessB b a = lessF b a := by simp [lessB, ha, hb]
  rw [e1, e2]
  refine ⟨?_, ?_⟩
  · cases h1 : lessF a b <;> cases h2 : lessF b a <;> first | rfl | exact absurd ⟨h1, h2⟩ h.1
  · rw [Bool.eq_iff_iff, decide_eq_true_eq, h.2]; simp
/-- **A sum with a greater fraction is greater** (promise 35). -/
theorem less_add {a b k : Fr} (h : lessB a b = true) (h1 : addOk a k = true) (h2 : addOk b k = true) : lessB (addR a k) (addR b k) = true := by
  obtain ⟨ha, hb, hl⟩ := (lessB_iff a b).1 h
  have hk := ((addOk_iff a k).1 h1).2.1
  have da := fracB_den ha
  have db := fracB_den hb
  have dk := fracB_den hk
  have va := addR_valid h1
  have vb := addR_valid h2
  refine (lessB_iff _ _).2 ⟨va, vb, ?_⟩
  have sa : SameF (sumF a k) (addR a k) := by rw [addR_yes h1]; exact same_symm ofF_same
  have sb : SameF (sumF b k) (addR b k) := by rw [addR_yes h2]; exact same_symm ofF_same
  have h3 := less_sum dk hl
  rw [(less_same (sumF_pos da dk) (fracB_den va) sa).1] at h3
  rwa [(less_same (sumF_pos db dk) (fracB_den vb) sb).2] at h3
/-- **A fraction has no common factor** (promise 37). -/
theorem part_two (f : Fr) : fracB (2 * f.1, 2 * f.2) = false := by
  cases hv : fracB (2 * f.1, 2 * f.2)
  · rfl
  · exfalso
    have h3 := ((fracB_iff _).1 hv).2.2
    have : gcdI (2 * f.1) (2 * f.2) = 2 * gcdI f.1 f.2 := by
      unfold gcdI
      rw [Int.natAbs_mul, Int.natAbs_mul]; exact Nat.gcd_mul_left _ _ _
    have h4 : gcdI (2 * f.1) (2 * f.2) = 1 := h3
    omega
theorem part_zero (n : Int) : fracB (n, 0) = false := by
  cases hv : fracB (n, 0)
  · rfl
  · have h2 := ((fracB_iff _).1 hv).2.1
    have : (1 : Int) ≤ 0 := h2.1
    omega

/-- The loop of the greatest common divisor. -/
theorem gcd_step (a b : Nat) : Nat.gcd b (a % b) = Nat.gcd a b := by rw [Nat.gcd_comm b, ← Nat.gcd_rec, Nat.gcd_comm]
theorem max_abs (n : Int) (h : -9223372036854775807 ≤ n) : (if n < 0 - n then 0 - n else n) = (n.natAbs : Int) := by split <;> omega

end Go.Proofs.Ytgcocdacofpglaa

namespace Go.Proofs.Ytgcocdacofpglaa

/-- What a party has. -/
def seV (zs : List Int) (z : Int) : Int := zs[z.toNat]?.getD 0
theorem seV_nat (zs : List Int) (i : Nat) : seV zs (i : Int) = zs[i]?.getD 0 := by unfold seV; rw [Int.toNat_natCast]
/-- The first k numbers are from 0 to m. -/
def toB (zs : List Int) (m : Int) (k : Nat) : Bool := (List.range k).all fun i => inB (zs[i]?.getD 0) 0 m
theorem toB_succ (zs : List Int) (m : Int) (k : Nat) : toB zs m (k + 1) = (toB zs m k && inB (zs[k]?.getD 0) 0 m) := by simp [toB, List.range_succ]
theorem toB_no {zs : List Int} {m : Int} {k n : Nat} (h : toB zs m (k + 1) = false) (hk : k < n) : toB zs m n = false := by
  simp only [toB, List.all_eq_false, List.mem_range] at h ⊢
  obtain ⟨i, h1, h2⟩ := h
  exact ⟨i, by omega, h2⟩
theorem toB_at {zs : List Int} {m : Int} {k : Nat} (h : toB zs m k = true) {i : Nat} (hi : i < k) : 0 ≤ zs[i]?.getD 0 ∧ zs[i]?.getD 0 ≤ m := by
  simp only [toB, inB, decide_eq_true_eq, List.all_eq_true, List.mem_range] at h
  exact h i hi
theorem toB_of {zs : List Int} {m : Int} {k : Nat} (h : ∀ i, i < k → 0 ≤ zs[i]?.getD 0 ∧ zs[i]?.getD 0 ≤ m) : toB zs m k = true := by
  simp only [toB, inB, decide_eq_true_eq, List.all_eq_true, List.mem_range]
  exact h
/-- One to five numbers from 0 to m. -/
def choB (zs : List Int) (m : Int) : Bool := toB zs m zs.length && inB (zs.length : Int) 1 5
theorem choB_iff (zs : List Int) (m : Int) : choB zs m = true ↔ toB zs m zs.length = true ∧ 1 ≤ zs.length ∧ zs.length ≤ 5 := by
  simp only [choB, inB, Bool.and_eq_true, decide_eq_true_eq]
  refine and_congr Iff.rfl ⟨fun h => by omega, fun h => by omega⟩
/-- Votes are valid. -/
def voteB (vs : List Int) : Bool := choB vs 99 && decide (0 < totI vs)
/-- Seats that were given to n parties are valid. -/
def giveB (gs : List Int) (n : Nat) : Bool := toB gs 20 gs.length && (decide (gs.length = n) && decide (totI gs ≤ 20))
/-- There is such a method. -/
def methB (m : Int) : Bool := decide (m = 1) || decide (m = 2)
theorem methB_iff (m : Int) : methB m = true ↔ m = 1 ∨ m = 2 := by simp [methB]
theorem voteB_iff (vs : List Int) : voteB vs = true ↔ (toB vs 99 vs.length = true ∧ 1 ≤ vs.length ∧ vs.length ≤ 5) ∧ 0 < totI vs := by
  unfold voteB; rw [Bool.and_eq_true, choB_iff, decide_eq_true_iff]
theorem giveB_iff (gs : List Int) (n : Nat) : giveB gs n = true ↔ toB gs 20 gs.length = true ∧ gs.length = n ∧ totI gs ≤ 20 := by
  unfold giveB; rw [Bool.and_eq_true, Bool.and_eq_true, decide_eq_true_iff, decide_eq_true_iff]
theorem seV_nn {zs : List Int} {m : Int} (h : toB zs m zs.length = true) (z : Int) : 0 ≤ seV zs z := by
  unfold seV
  by_cases hi : z.toNat < zs.length
  · exact (toB_at h hi).1
  · rw [List.getElem?_eq_none (by omega)]; exact Int.le_refl _
/-- The votes, the seats, the method and the lots are valid. -/
def okN (vs gs : List Int) (m : Int) (lots : List Int) : Bool := voteB vs && (giveB gs vs.length && (methB m && (lotsB lots && decide (lots.length = vs.length))))
def okD (vs : List Int) (s m : Int) (lots : List Int) : Bool := voteB vs && (inB s 0 20 && (methB m && (lotsB lots && decide (lots.length = vs.length))))
theorem okN_iff (vs gs : List Int) (m : Int) (lots : List Int) : okN vs gs m lots = true ↔ voteB vs = true ∧ giveB gs vs.length = true ∧ methB m = true ∧ lotsB lots = true ∧ lots.length = vs.length := by
  unfold okN; simp only [Bool.and_eq_true, decide_eq_true_iff]
theorem okD_iff (vs : List Int) (s m : Int) (lots : List Int) : okD vs s m lots = true ↔ voteB vs = true ∧ (0 ≤ s ∧ s ≤ 20) ∧ methB m = true ∧ lotsB lots = true ∧ lots.length = vs.length := by
  unfold okD inB; simp only [Bool.and_eq_true, decide_eq_true_iff]
/-- What SeatsNext returns. -/
def nextI (vs gs : List Int) (m : Int) (lots : List Int) : Int := if okN vs gs m lots = true then nextL (seV vs) (seV gs) m lots else -1
/-- The seats behind n rounds. -/
def seatsL (vs : List Int) (m : Int) (lots : List Int) : Nat → List Int
  | 0 => List.replicate vs.length 0
  | n + 1 => (seatsL vs m lots n).set (nextL (seV vs) (seV (seatsL vs m lots n)) m lots).toNat (seV (seatsL vs m lots n) (nextL (seV vs) (seV (seatsL vs m lots n)) m lots) + 1)
theorem seatsL_succ (vs : List Int) (m : Int) (lots : List Int) (n : Nat) : seatsL vs m lots (n + 1) = (seatsL vs m lots n).set (nextL (seV vs) (seV (seatsL vs m lots n)) m lots).toNat (seV (seatsL vs m lots n) (nextL (seV vs) (seV (seatsL vs m lots n)) m lots) + 1) := rfl
theorem seatsL_length (vs : List Int) (m : Int) (lots : List Int) : ∀ n, (seatsL vs m lots n).length = vs.length
  | 0 => by simp [seatsL]
  | n + 1 => by rw [seatsL_succ, List.length_set, seatsL_length vs m lots n]
/-- What SeatsDivisor returns. -/
def divL (vs : List Int) (s m : Int) (lots : List Int) : List Int := if okD vs s m lots = true then seatsL vs m lots s.toNat else []
/-- Of a seat of i's: whether k wants it no more. -/
def chAt (vs gs : List Int) (m : Int) (i k : Nat) : Bool := !(decide (0 < gs[i]?.getD 0) && decide (vs[i]?.getD 0 * divI m (gs[k]?.getD 0) < vs[k]?.getD 0 * divI m (gs[i]?.getD 0 - 1)))
def chRow (vs gs : List Int) (m : Int) (i K : Nat) : Bool := (List.range K).all fun k => chAt vs gs m i k
def chTo (vs gs : List Int) (m : Int) (n I : Nat) : Bool := (List.range I).all fun i => chRow vs gs m i n
theorem chRow_succ (vs gs : List Int) (m : Int) (i K : Nat) : chRow vs gs m i (K + 1) = (chRow vs gs m i K && chAt vs gs m i K) := by simp [chRow, List.range_succ]
theorem chTo_succ (vs gs : List Int) (m : Int) (n I : Nat) : chTo vs gs m n (I + 1) = (chTo vs gs m n I && chRow vs gs m I n) := by simp [chTo, List.range_succ]
theorem chTo_no {vs gs : List Int} {m : Int} {n i k : Nat} (hi : i < n) (hk : k < n) (h : chAt vs gs m i k = false) : chTo vs gs m n n = false := by
  unfold chTo
  rw [List.all_eq_false]
  refine ⟨i, List.mem_range.2 hi, ?_⟩
  unfold chRow
  rw [Bool.not_eq_true, List.all_eq_false]
  exact ⟨k, List.mem_range.2 hk, by rw [h]; decide⟩
theorem chTo_row {vs gs : List Int} {m : Int} {n i : Nat} (hi : i < n) (h : chRow vs gs m i n = false) : chTo vs gs m n n = false := by
  unfold chTo
  rw [List.all_eq_false]
  exact ⟨i, List.mem_range.2 hi, by rw [h]; decide⟩
/-- The check of valid arguments. -/
def okC (vs gs : List Int) (m : Int) : Bool := voteB vs && (giveB gs vs.length && methB m)
theorem okC_iff (vs gs : List Int) (m : Int) : okC vs gs m = true ↔ voteB vs = true ∧ giveB gs vs.length = true ∧ methB m = true := by
  unfold okC; simp only [Bool.and_eq_true]
/-- What SeatsCheck returns. -/
def checkB (vs gs : List Int) (m : Int) : Bool := okC vs gs m && chTo vs gs m vs.length vs.length

/-- The next one depends on the seats of those in the lots alone. -/
theorem nextF_eq {V W G H : Int → Int} {m : Int} : ∀ (t : List Int) (b : Int), (∀ z ∈ b :: t, V z = W z ∧ G z = H z) → nextF V G m b t = nextF W H m b t
  | [], _, _ => rfl
  | k :: t, b, h => by
    unfold nextF
    have hb := h b (by simp)
    have hk := h k (by simp)
    rw [hb.1, hb.2, hk.1, hk.2]
    split
    · exact nextF_eq t k (fun z hz => h z (by rcases List.mem_cons.1 hz with e | e <;> simp [e]))
    · exact nextF_eq t b (fun z hz => h z (by rcases List.mem_cons.1 hz with e | e <;> simp [e]))
theorem nextL_eq {V W G H : Int → Int} {m : Int} {lots : List Int} (h0 : lots ≠ []) (h : ∀ z ∈ lots, V z = W z ∧ G z = H z) : nextL V G m lots = nextL W H m lots := by
  match lots, h0, h with
  | b :: t, _, h => exact nextF_eq t b h
theorem seV_set {zs : List Int} {n : Nat} (hl : zs.length = n) {k z : Int} (hk : 0 ≤ k ∧ k < (n : Int)) (hz : 0 ≤ z) (v : Int) : seV (zs.set k.toNat v) z = if z = k then v else seV zs z := by
  unfold seV
  by_cases e : z = k
  · subst e; rw [if_pos rfl, List.getElem?_set_self (by omega)]; rfl
  · rw [if_neg e, List.getElem?_set_ne (by omega)]
theorem totI_set : ∀ (zs : List Int) (k : Nat) (v : Int), k < zs.length → totI (zs.set k v) = totI zs + (v - zs[k]?.getD 0)
  | [], _, _, h => by simp at h
  | z :: t, 0, v, _ => by simp only [List.set_cons_zero, totI_cons, List.getElem?_cons_zero, Option.getD_some]; omega
  | z :: t, k + 1, v, h => by
    have := totI_set t k v (by simpa using h)
    simp only [List.set_cons_succ, totI_cons, List.getElem?_cons_succ]; omega
theorem totI_repl (n : Nat) : totI (List.replicate n 0) = 0 := by
  induction n with
  | zero => rfl
  | succ n ih => rw [List.replicate_succ, totI_cons, ih]; rfl
theorem le_totI : ∀ {zs : List Int}, (∀ i, i < zs.length → 0 ≤ zs[i]?.getD 0) → (0 ≤ totI zs ∧ ∀ i, i < zs.length → zs[i]?.getD 0 ≤ totI zs)
  | [], _ => ⟨Int.le_refl _, fun i h => by simp at h⟩
  | z :: t, h => by
    have ih := le_totI (zs := t) (fun i hi => by have := h (i + 1) (by simpa using hi); simpa using this)
    have h0 := h 0 (by simp)
    simp only [List.getElem?_cons_zero, Option.getD_some] at h0
    rw [totI_cons]
    refine ⟨by omega, fun i hi => ?_⟩
    match i, hi with
    | 0, _ => simp only [List.getElem?_cons_zero, Option.getD_some]; omega
    | i + 1, hi =>
      have := ih.2 i (by simpa using hi)
      simp only [List.getElem?_cons_succ]; omega
theorem take_le_totI {zs : List Int} (h : ∀ i, i < zs.length → 0 ≤ zs[i]?.getD 0) (k : Nat) : totI (zs.take k) ≤ totI zs := by
  have e : totI zs = totI (zs.take k) + totI (zs.drop k) := by rw [← totI_app, List.take_append_drop]
  have := (le_totI (zs := zs.drop k) (fun i hi => by
    rw [List.getElem?_drop]; exact h _ (by simp at hi; omega))).1
  omega

section
variable {vs lots : List Int} {m : Int}
theorem meth_nn (hm : methB m = true) : 0 < m ∧ m ≤ 2 := by rcases (methB_iff m).1 hm with e | e <;> omega
theorem lots_ne (hl : lotsB lots = true) : lots ≠ [] := fun e => by have := (lotsB_len hl).1; rw [e] at this; simp at this
theorem next_in {gs : List Int} {n : Nat} (hm : methB m = true) (hl : lotsB lots = true) (hn : lots.length = n) (hg : toB gs 20 gs.length = true) : 0 ≤ nextL (seV vs) (seV gs) m lots ∧ nextL (seV vs) (seV gs) m lots < (n : Int) := by
  have := (next_spec (V := seV vs) (Int.le_of_lt (meth_nn hm).1) (fun z => seV_nn hg z) (vB_nodup hl) (lots_ne hl)).1
  have := lotsB_mem hl _ this
  omega
/-- Rounds by list are rounds by function; what they keep. -/
theorem seats_are (hm : methB m = true) (hl : lotsB lots = true) (hn : lots.length = vs.length) : ∀ n : Nat, n ≤ 20 → giveB (seatsL vs m lots n) vs.length = true ∧ totI (seatsL vs m lots n) = (n : Int) ∧ ∀ z ∈ lots, seV (seatsL vs m lots n) z = seatF (seV vs) m lots n z
  | 0, _ => by
    have h0 : ∀ i : Nat, (List.replicate vs.length (0 : Int))[i]?.getD 0 = 0 := fun i => by
      rw [List.getElem?_replicate]; split <;> rfl
    refine ⟨(giveB_iff _ _).2 ⟨toB_of (fun i _ => ?_), by simp [seatsL], ?_⟩, ?_, fun z _ => ?_⟩
    · show 0 ≤ (List.replicate vs.length (0 : Int))[i]?.getD 0 ∧ (List.replicate vs.length (0 : Int))[i]?.getD 0 ≤ 20
      rw [h0]; omega
    · show totI (List.replicate vs.length 0) ≤ 20
      rw [totI_repl]; omega
    · exact totI_repl _
    · exact h0 _
  | n + 1, h => by
    obtain ⟨h1, h2, h3⟩ := seats_are hm hl hn n (by omega)
    obtain ⟨h4, h5, h6⟩ := (giveB_iff _ _).1 h1
    have hlen := seatsL_length vs m lots n
    have hk := next_in (vs := vs) hm hl hn h4
    have he : nextL (seV vs) (seV (seatsL vs m lots n)) m lots = nextL (seV vs) (seatF (seV vs) m lots n) m lots := nextL_eq (lots_ne hl) (fun z hz => ⟨rfl, h3 z hz⟩)
    have hs := seatsL_succ vs m lots n
    obtain ⟨k, hke⟩ : ∃ k, nextL (seV vs) (seV (seatsL vs m lots n)) m lots = k := ⟨_, rfl⟩
    rw [hke] at hk hs he
    have hkn : 0 ≤ seV (seatsL vs m lots n) k := seV_nn h4 k
    have ht : totI (seatsL vs m lots (n + 1)) = (n : Int) + 1 := by
      rw [hs, totI_set _ _ _ (by omega), h2]
      show (n : Int) + (seV (seatsL vs m lots n) k + 1 - seV (seatsL vs m lots n) k) = (n : Int) + 1
      omega
    have hnn : ∀ i, i < (seatsL vs m lots (n + 1)).length → 0 ≤ (seatsL vs m lots (n + 1))[i]?.getD 0 := fun i hi => by
      have e := seV_set hlen hk (z := (i : Int)) (by omega) (seV (seatsL vs m lots n) k + 1)
      rw [seV_nat, ← hs] at e
      rw [e]
      split
      · omega
      · exact seV_nn h4 _
    have hle := (le_totI hnn).2
    refine ⟨(giveB_iff _ _).2 ⟨toB_of (fun i hi => ⟨hnn i hi, ?_⟩), seatsL_length _ _ _ _, by omega⟩, by omega, fun z hz => ?_⟩
    · have := hle i hi
      omega
    · have hz0 := lotsB_mem hl z hz
      rw [hs, seV_set hlen hk hz0.1, seatF_succ, ← he]
      unfold plus
      split
      · rename_i e; subst e; rw [h3 z hz]
      · exact h3 z hz
/-- **All seats are given** (promise 82), and no seats without votes. -/
theorem seats_check (hv : voteB vs = true) (hm : methB m = true) (hl : lotsB lots = true) (hn : lots.length = vs.length) {n : Nat} (h20 : n ≤ 20) : Chk (seV vs) (seV (seatsL vs m lots n)) m lots := by
  obtain ⟨⟨hv1, -, -⟩, -⟩ := (voteB_iff vs).1 hv
  have h3 := (seats_are hm hl hn n h20).2.2
  have hc := seatF_chk (V := seV vs) (Int.le_of_lt (meth_nn hm).1) (seV_nn hv1) (vB_nodup hl) (lots_ne hl) n
  intro i hi k hk hp
  rw [h3 i hi] at hp ⊢
  rw [h3 k hk]
  exact hc i hi k hk hp
theorem seats_none (hv : voteB vs = true) (hm : methB m = true) (hl : lotsB lots = true) (hn : lots.length = vs.length) {n : Nat} (h20 : n ≤ 20) {i : Nat} (hi : i < vs.length) (h0 : vs[i]?.getD 0 = 0) : (seatsL vs m lots n)[i]?.getD 0 = 0 := by
  obtain ⟨⟨hv1, -, -⟩, hv4⟩ := (voteB_iff vs).1 hv
  have him : (i : Int) ∈ lots := lots_mem hl (by omega)
  have hx : ∃ k ∈ lots, 0 < seV vs k := by
    by_cases h : ∃ k ∈ lots, 0 < seV vs k
    · exact h
    · exfalso
      have hz : ∀ j, j < vs.length → vs[j]?.getD 0 = (List.replicate vs.length (0 : Int))[j]?.getD 0 := fun j hj => by
        have h1 : ¬ 0 < seV vs (j : Int) := fun hp => h ⟨(j : Int), lots_mem hl (by omega), hp⟩
        have h2 := seV_nn hv1 (j : Int)
        rw [seV_nat] at h1 h2
        rw [List.getElem?_replicate, if_pos hj]
        show vs[j]?.getD 0 = 0
        omega
      have := totI_le (a := vs) (b := List.replicate vs.length 0) (by simp) (fun j hj => by rw [hz j hj]; exact Int.le_refl _)
      rw [totI_repl] at this
      omega
  have := seatF_none (V := seV vs) (Int.le_of_lt (meth_nn hm).1) (seV_nn hv1) (vB_nodup hl) hx (i := (i : Int)) (by rw [seV_nat]; exact h0) n
  rw [← (seats_are hm hl hn n h20).2.2 _ him, seV_nat] at this
  exact this
end

/-- The check by list is the check by function. -/
theorem check_is {vs gs : List Int} {m : Int} {lots : List Int} (hl : lotsB lots = true) (hn : lots.length = vs.length) : chTo vs gs m vs.length vs.length = true ↔ Chk (seV vs) (seV gs) m lots := by
  have hc : chTo vs gs m vs.length vs.length = true ↔ ∀ i, i < vs.length → ∀ k, k < vs.length → 0 < gs[i]?.getD 0 → vs[k]?.getD 0 * divI m (gs[i]?.getD 0 - 1) ≤ vs[i]?.getD 0 * divI m (gs[k]?.getD 0) := by
    simp only [chTo, chRow, chAt, List.all_eq_true, List.mem_range, Bool.not_eq_true', Bool.and_eq_false_iff, decide_eq_false_iff_not, Int.not_lt]
    exact ⟨fun h i hi k hk hp => by rcases h i hi k hk with e | e <;> omega, fun h i hi k hk => by
      rcases Int.lt_or_le 0 (gs[i]?.getD 0) with e | e
      · exact .inr (h i hi k hk e)
      · exact .inl e⟩
  rw [hc]
  constructor
  · intro h i hi k hk hp
    have h1 := lotsB_mem hl i hi
    have h2 := lotsB_mem hl k hk
    exact h i.toNat (by omega) k.toNat (by omega) hp
  · intro h i hi k hk hp
    have := h (i : Int) (lots_mem hl (by omega)) (k : Int) (lots_mem hl (by omega))
    simp only [seV_nat] at this
    exact this hp

/-- Of two quotients the less one. -/
theorem less_of {a b c d : Int} (hb : 0 < b) (hd : 0 < d) : lessF (ofF a b) (ofF c d) = decide (a * d < c * b) := by
  rw [(less_same (ofF_red hb).1 (b := (a, b)) hb ofF_same).1, (less_same (ofF_red hd).1 (b := (c, d)) (c := (a, b)) hd ofF_same).2]
  rfl
/-- All quotients. -/
def qsL (vs gs : List Int) (m : Int) : List Fr := (List.range vs.length).map fun i => ofF (vs[i]?.getD 0) (divI m (gs[i]?.getD 0))
theorem qsL_length (vs gs : List Int) (m : Int) : (qsL vs gs m).length = vs.length := by simp [qsL]
theorem quot_ok {v d : Int} (hv : 0 ≤ v ∧ v ≤ 99) (hd : 1 ≤ d ∧ d ≤ 41) : ofOk v d = true := (ofOk_iff v d).2 ⟨by omega, by omega⟩
theorem quot_fr {v d : Int} (hv : 0 ≤ v ∧ v ≤ 99) (hd : 1 ≤ d ∧ d ≤ 41) : ofR v d = ofF v d ∧ fracB (ofF v d) = true := by
  have h := quot_ok hv hd
  have := (of_valid h).1
  rw [ofR_yes h] at this
  exact ⟨ofR_yes h, this⟩
theorem divI_in {m g : Int} (hm : methB m = true) (hg : 0 ≤ g ∧ g ≤ 20) : 1 ≤ divI m g ∧ divI m g ≤ 41 := by
  unfold divI
  rcases (methB_iff m).1 hm with e | e <;> subst e <;> omega

end Go.Proofs.Ytgcocdacofpglaa

namespace Go.Proofs.Ytgcocdacofpglaa
open Go.RowKit

set_option maxHeartbeats 1000000 in
/-- **choicesUpTo**. -/
theorem choices_as (a : Option Addr) (len cap : Nat) (zs : List Int) (m : Int) (v : Bool) (w : World) (h : IsInts w a len cap zs) (hv : choB zs m = v) :
    Calls Try.prog 51 #[.slice a len cap, .int .i64 m] w fun e w' => e = .returned (.bool v) ∧ w = w' := by
  obtain ⟨h1, h2, h3, h4⟩ := h
  have HV : Hid (v = (toB zs m len && inB (len : Int) 1 5)) := by unfold Hid; rw [← hv]; unfold choB; rw [h1]
  have H4 := Lib.hid h4; clear h4 h1 hv
  by_cases hl1 : len < 1
  · have e : v = false := by rw [HV.out]; simp [inB]; omega
    subst e
    go_enter Try.func51, Try.ntmps51
    go_wp2
    go_ret
    exact ⟨rfl, rfl⟩
  by_cases hl5 : 5 < len
  · have e : v = false := by rw [HV.out]; simp [inB]; omega
    subst e
    go_enter Try.func51, Try.ntmps51
    go_wp2
    go_ret
    exact ⟨rfl, rfl⟩
  have e : inB (len : Int) 1 5 = true := by simp [inB]; omega
  have HV : Hid (v = toB zs m len) := by unfold Hid; rw [HV.out, e, Bool.and_true]
  clear e
  go_enter Try.func51, Try.ntmps51
  go_wp2
  go_loop [6, 17] (fun _ i => ∃ k : Nat, k ≤ len ∧ i = .int .i64 k ∧ Hid (toB zs m k = true)) (fun _ i => len - (intOf i).toNat)
  case atStart => exact ⟨0, Nat.zero_le _, rfl, by simp [Hid, toB]⟩
  case round =>
    obtain ⟨k, hk, rfl, hc⟩ := hrel
    by_cases hlt : k < len
    · obtain ⟨b, off, rfl, hb, hcell⟩ := H4.out (by omega)
      have hck := hcell k hlt
      have HS := toB_succ zs m k
      rw [hc.out, Bool.true_and] at HS
      have HS := Lib.hid HS
      obtain ⟨z, hz⟩ : ∃ z, zs[k]?.getD 0 = z := ⟨_, rfl⟩
      rw [hz] at hck HS
      clear hcell hz
      by_cases hneg : z < 0
      · have hn : inB z 0 m = false := by simp [inB]; omega
        have HI := Lib.hid hn; clear hn
        go_wp2
        go_ret
        refine ⟨ret_bool ?_, rfl⟩
        rw [HV.out, toB_no (by rw [HS.out, HI.out]) hlt]
      · by_cases hbig : m < z
        · have hn : inB z 0 m = false := by simp [inB]; omega
          have HI := Lib.hid hn; clear hn
          go_wp2
          go_ret
          refine ⟨ret_bool ?_, rfl⟩
          rw [HV.out, toB_no (by rw [HS.out, HI.out]) hlt]
        · have hn : inB z 0 m = true := by simp [inB]; omega
          have HI := Lib.hid hn; clear hn
          go_wp2
          go_round
          case rel => exact ⟨k + 1, by omega, by go_num, by unfold Hid; rw [HS.out, HI.out]⟩
          case measure => simp [intOf]; omega
    · obtain rfl : k = len := by omega
      go_wp2
      go_ret
      refine ⟨ret_bool ?_, rfl⟩
      rw [HV.out, hc.out]

theorem tot_take {zs : List Int} {k : Nat} (h : k < zs.length) : totI (zs.take (k + 1)) = totI (zs.take k) + zs[k]?.getD 0 := by
  have e : zs[k]?.getD 0 = zs[k] := by simp [h]
  rw [List.take_succ_eq_append_getElem h, totI_snoc, e]
theorem tot_bound {zs : List Int} {m : Int} (hm : 0 ≤ m) {n : Nat} (hb : ∀ x : Nat, x < n → 0 ≤ zs[x]?.getD 0 ∧ zs[x]?.getD 0 ≤ m) : ∀ k, k ≤ n → 0 ≤ totI (zs.take k) ∧ totI (zs.take k) ≤ m * (k : Int)
  | 0, _ => by simp [totI_nil]
  | k + 1, h => by
    have ih := tot_bound hm hb k (by omega)
    have := hb k (by omega)
    have e : m * ((k + 1 : Nat) : Int) = m * (k : Int) + m := by rw [Int.natCast_add, Int.mul_add]; simp
    by_cases hk : k < zs.length
    · rw [tot_take hk, e]
      omega
    · have e2 : zs.take (k + 1) = zs.take k := by rw [List.take_of_length_le (by omega), List.take_of_length_le (by omega)]
      rw [e2, e]; omega

set_option maxHeartbeats 2000000 in
/-- **sumOf** of impl. -/
theorem implSum_as (a : Option Addr) (len cap : Nat) (zs : List Int) (s : Int) (w : World) (h : IsInts w a len cap zs) (hl : len ≤ 20) (hb : ∀ x : Nat, x < len → 0 ≤ zs[x]?.getD 0 ∧ zs[x]?.getD 0 ≤ 100000) (hs : totI zs = s) :
    Calls Try.prog 53 #[.slice a len cap] w fun e w' => e = .returned (.int .i64 s) ∧ w = w' := by
  obtain ⟨h1, h2, h3, h4⟩ := h
  have H1 := Lib.hid h1
  have H4 := Lib.hid h4
  have HB := Lib.hid hb
  have HS := Lib.hid hs
  clear h1 h4 hb hs
  go_enter Try.func53, Try.ntmps53
  go_wp2
  go_loop [3, 5, 8] (fun nv _ iv => ∃ (i : Nat) (t : Int), i ≤ len ∧ iv = .int .i64 (i : Int) ∧ nv = .int .i64 t ∧ Hid (totI (zs.take i) = t)) (fun _ _ iv => len - (intOf iv).toNat)
  case atStart => exact ⟨0, 0, Nat.zero_le _, rfl, rfl, by unfold Hid; simp [totI_nil]⟩
  case round =>
    obtain ⟨i, t, hil, rfl, rfl, hT⟩ := hrel
    by_cases hlt : i < len
    · obtain ⟨b, off, rfl, hb, hc⟩ := H4.out (by omega)
      have ci := hc i hlt
      obtain ⟨z, hz⟩ : ∃ z, zs[i]?.getD 0 = z := ⟨_, rfl⟩
      have hzb := HB.out i hlt
      have htb := tot_bound (m := 100000) (by omega) HB.out i (by omega)
      rw [hT.out] at htb
      rw [hz] at ci hzb
      have HT2 : Hid (totI (zs.take (i + 1)) = t + z) := by rw [Hid, tot_take (by rw [H1.out]; exact hlt), hz, hT.out]
      clear hc hz
      go_wp2
      go_round
      case rel => exact ⟨i + 1, t + z, by omega, by go_num, rfl, HT2⟩
      case measure => simp [intOf]; omega
    · obtain rfl : i = len := by omega
      have HE : Hid (t = s) := by rw [Hid, ← HS.out, ← hT.out, List.take_of_length_le (by rw [H1.out]; exact Nat.le_refl _)]
      go_wp2
      go_ret
      exact ⟨ret_int HE.out, rfl⟩

end Go.Proofs.Ytgcocdacofpglaa
