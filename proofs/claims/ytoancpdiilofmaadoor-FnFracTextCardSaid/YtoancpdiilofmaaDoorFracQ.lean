/-
  Fractions, as pairs: what the functions of chapter 5 return; the laws of their promises. Of no memory.
-/
import Derived.Test.YtoancpdiilofmaaDoorFracP
namespace Go.Proofs.YtoancpdiilofmaaDoor

/-- Bounds. -/
theorem mul_bound {x y : Int} (hx : -9999999 ≤ x ∧ x ≤ 9999999) (hy : 0 ≤ y ∧ y ≤ 9999999) : -99999980000001 ≤ x * y ∧ x * y ≤ 99999980000001 := by
  have h1 : x * y ≤ 9999999 * y := Int.mul_le_mul_of_nonneg_right hx.2 hy.1
  have h2 : -9999999 * y ≤ x * y := Int.mul_le_mul_of_nonneg_right hx.1 hy.1
  omega
theorem mul_bound2 {x y : Int} (hx : -9999999 ≤ x ∧ x ≤ 9999999) (hy : -9999999 ≤ y ∧ y ≤ 9999999) : -99999980000001 ≤ x * y ∧ x * y ≤ 99999980000001 := by
  rcases Int.le_total 0 y with h | h
  · exact mul_bound hx ⟨h, hy.2⟩
  · have := mul_bound hx (y := -y) ⟨by omega, by omega⟩
    rw [Int.mul_neg] at this
    omega

theorem fracB_of {f : Fr} (h1 : -9999999 ≤ f.1 ∧ f.1 ≤ 9999999) (h2 : 1 ≤ f.2 ∧ f.2 ≤ 9999999) (h3 : gcdI f.1 f.2 = 1) : fracB f = true := (fracB_iff f).2 ⟨h1, h2, h3⟩
theorem fracB_den {f : Fr} (h : fracB f = true) : 0 < f.2 := by have := (fracB_iff f).1 h; omega
/-- A number is not made greater by division. -/
theorem ofF_bound {n d : Int} (hd : 0 < d) : (ofF n d).1.natAbs ≤ n.natAbs ∧ 1 ≤ (ofF n d).2 ∧ (ofF n d).2 ≤ d := by
  have hg := gcdI_pos (n := n) hd
  obtain ⟨h1, h2⟩ := ofF_mul n d
  have hr := (ofF_red (n := n) hd).1
  refine ⟨?_, by omega, ?_⟩
  · have e1 : (ofF n d).1.natAbs * gcdI n d = n.natAbs := by
      have := congrArg Int.natAbs h1
      rwa [Int.natAbs_mul, Int.natAbs_natCast] at this
    rw [← e1]; exact Nat.le_mul_of_pos_right _ hg
  · have h3 : (ofF n d).2 * 1 ≤ (ofF n d).2 * (gcdI n d : Int) := Int.mul_le_mul_of_nonneg_left (by omega) (by omega)
    omega
theorem ofF_self {f : Fr} (h : Red f) : ofF f.1 f.2 = f := red_eq (ofF_red h.1) h ofF_same
/-- The fraction of a number hangs on the number alone. -/
theorem ofF_same_eq {n d n' d' : Int} (hd : 0 < d) (hd' : 0 < d') (h : n * d' = n' * d) : ofF n d = ofF n' d' :=
  red_eq (ofF_red hd) (ofF_red hd') ((SameF.trans (b := (n, d)) (by show d ≠ 0; omega) ofF_same (SameF.trans (b := (n', d')) (by show d' ≠ 0; omega) h (same_symm ofF_same))))

/-- FracOf. -/
def ofOk (n d : Int) : Bool := inB n (-9999999) 9999999 && inB d 1 9999999
def ofR (n d : Int) : Fr := if ofOk n d = true then ofF n d else (0, 0)
theorem ofOk_iff (n d : Int) : ofOk n d = true ↔ (-9999999 ≤ n ∧ n ≤ 9999999) ∧ 1 ≤ d ∧ d ≤ 9999999 := by simp [ofOk, inB]
theorem ofR_yes {n d : Int} (h : ofOk n d = true) : ofR n d = ofF n d := by rw [ofR, if_pos h]
theorem ofR_no {n d : Int} (h : ofOk n d = false) : ofR n d = (0, 0) := by rw [ofR, h]; rfl
/-- FracAdd, FracTimes. -/
def addOk (a b : Fr) : Bool := fracB a && (fracB b && fracB (ofF (sumF a b).1 (sumF a b).2))
def addR (a b : Fr) : Fr := if addOk a b = true then ofF (sumF a b).1 (sumF a b).2 else (0, 0)
def mulOk (a b : Fr) : Bool := fracB a && (fracB b && fracB (ofF (proF a b).1 (proF a b).2))
def mulR (a b : Fr) : Fr := if mulOk a b = true then ofF (proF a b).1 (proF a b).2 else (0, 0)
/-- FracLess. -/
def lessB (a b : Fr) : Bool := fracB a && (fracB b && lessF a b)
theorem addOk_iff (a b : Fr) : addOk a b = true ↔ fracB a = true ∧ fracB b = true ∧ fracB (ofF (sumF a b).1 (sumF a b).2) = true := by simp [addOk]
theorem mulOk_iff (a b : Fr) : mulOk a b = true ↔ fracB a = true ∧ fracB b = true ∧ fracB (ofF (proF a b).1 (proF a b).2) = true := by simp [mulOk]
theorem lessB_iff (a b : Fr) : lessB a b = true ↔ fracB a = true ∧ fracB b = true ∧ lessF a b = true := by simp [lessB]
theorem addR_yes {a b : Fr} (h : addOk a b = true) : addR a b = ofF (sumF a b).1 (sumF a b).2 := by rw [addR, if_pos h]
theorem addR_no {a b : Fr} (h : addOk a b = false) : addR a b = (0, 0) := by rw [addR, h]; rfl
theorem mulR_yes {a b : Fr} (h : mulOk a b = true) : mulR a b = ofF (proF a b).1 (proF a b).2 := by rw [mulR, if_pos h]
theorem mulR_no {a b : Fr} (h : mulOk a b = false) : mulR a b = (0, 0) := by rw [mulR, h]; rfl
/-- What is summed up or multiplied fits into an int. -/
theorem sumF_bound {a b : Fr} (ha : fracB a = true) (hb : fracB b = true) : (-199999960000002 ≤ (sumF a b).1 ∧ (sumF a b).1 ≤ 199999960000002) ∧ 0 < (sumF a b).2 ∧ (sumF a b).2 ≤ 99999980000001 := by
  obtain ⟨a1, a2, _⟩ := (fracB_iff a).1 ha
  obtain ⟨b1, b2, _⟩ := (fracB_iff b).1 hb
  have h1 := mul_bound a1 (y := b.2) ⟨by omega, by omega⟩
  have h2 := mul_bound b1 (y := a.2) ⟨by omega, by omega⟩
  have h3 := mul_bound (x := a.2) ⟨by omega, by omega⟩ (y := b.2) ⟨by omega, by omega⟩
  have h4 := sumF_pos (a := a) (b := b) (by omega) (by omega)
  unfold sumF at *
  exact ⟨⟨by omega, by omega⟩, h4, h3.2⟩
theorem proF_bound {a b : Fr} (ha : fracB a = true) (hb : fracB b = true) : (-99999980000001 ≤ (proF a b).1 ∧ (proF a b).1 ≤ 99999980000001) ∧ 0 < (proF a b).2 ∧ (proF a b).2 ≤ 99999980000001 := by
  obtain ⟨a1, a2, _⟩ := (fracB_iff a).1 ha
  obtain ⟨b1, b2, _⟩ := (fracB_iff b).1 hb
  have h1 := mul_bound2 a1 b1
  have h3 := mul_bound (x := a.2) ⟨by omega, by omega⟩ (y := b.2) ⟨by omega, by omega⟩
  have h4 := proF_pos (a := a) (b := b) (by omega) (by omega)
  unfold proF at *
  exact ⟨h1, h4, h3.2⟩
theorem addR_valid {a b : Fr} (h : addOk a b = true) : fracB (addR a b) = true := by rw [addR_yes h]; exact ((addOk_iff a b).1 h).2.2
theorem mulR_valid {a b : Fr} (h : mulOk a b = true) : fracB (mulR a b) = true := by rw [mulR_yes h]; exact ((mulOk_iff a b).1 h).2.2

/-- **A fraction is reduced** (promise 29). -/
theorem of_valid {n d : Int} (h : ofOk n d = true) : fracB (ofR n d) = true ∧ (ofR n d).1 * d = n * (ofR n d).2 := by
  obtain ⟨h1, h2⟩ := (ofOk_iff n d).1 h
  have hd : 0 < d := by omega
  rw [ofR_yes h]
  obtain ⟨b1, b2, b3⟩ := ofF_bound (n := n) hd
  refine ⟨fracB_of ⟨by omega, by omega⟩ ⟨by omega, by omega⟩ (ofF_red hd).2, ofF_same⟩
theorem of_three {n d : Int} (h : ofOk n d = true) (h3 : ofOk (3 * n) (3 * d) = true) : ofR (3 * n) (3 * d) = ofR n d := by
  obtain ⟨h1, h2⟩ := (ofOk_iff n d).1 h
  rw [ofR_yes h, ofR_yes h3]
  refine ofF_same_eq (by omega) (by omega) ?_
  rw [Int.mul_comm 3 n, Int.mul_assoc]
/-- **Sums have no order** (promise 30). -/
theorem add_comm_ok (a b : Fr) : addOk b a = addOk a b ∧ addR b a = addR a b := by
  have e : addOk b a = addOk a b := by
    rw [Bool.eq_iff_iff, addOk_iff, addOk_iff, sumF_comm b a]
    exact ⟨fun ⟨h1, h2, h3⟩ => ⟨h2, h1, h3⟩, fun ⟨h1, h2, h3⟩ => ⟨h2, h1, h3⟩⟩
  exact ⟨e, by unfold addR; rw [e, sumF_comm b a]⟩
theorem neg_valid {a : Fr} (h : fracB a = true) : fracB (0 - a.1, a.2) = true := by
  obtain ⟨h1, h2, h3⟩ := (fracB_iff a).1 h
  refine fracB_of ⟨by show -9999999 ≤ 0 - a.1; omega, by show 0 - a.1 ≤ 9999999; omega⟩ h2 ?_
  show gcdI (0 - a.1) a.2 = 1
  unfold gcdI at h3 ⊢
  rw [Int.zero_sub, Int.natAbs_neg]; exact h3
theorem add_back {a b : Fr} (h : addOk a b = true) : addOk (addR a b) (0 - a.1, a.2) = true ∧ addR (addR a b) (0 - a.1, a.2) = b := by
  obtain ⟨ha, hb, hs⟩ := (addOk_iff a b).1 h
  have da := fracB_den ha
  have db := fracB_den hb
  have hsd := sumF_pos (a := a) (b := b) da db
  have hv := addR_valid h
  have dr := fracB_den hv
  have hS : SameF (addR a b) (sumF a b) := by rw [addR_yes h]; exact ofF_same
  have hback : SameF (sumF (addR a b) (0 - a.1, a.2)) b := by
    refine SameF.trans (b := sumF (sumF a b) (0 - a.1, a.2)) ?_ (sumF_same hS) (SameF.trans (b := (b.1 * a.2 * a.2, b.2 * a.2 * a.2)) ?_ (sum_back a b) ?_)
    · have := sumF_pos (a := sumF a b) (b := (0 - a.1, a.2)) hsd da
      omega
    · show b.2 * a.2 * a.2 ≠ 0
      have := Int.mul_pos (Int.mul_pos db da) da
      omega
    · have := scale_same b (a.2 * a.2)
      rwa [← Int.mul_assoc, ← Int.mul_assoc] at this
  have hd2 : 0 < (sumF (addR a b) (0 - a.1, a.2)).2 := sumF_pos (a := addR a b) (b := (0 - a.1, a.2)) dr da
  have he : ofF (sumF (addR a b) (0 - a.1, a.2)).1 (sumF (addR a b) (0 - a.1, a.2)).2 = b :=
    red_eq (ofF_red hd2) (fracB_red hb) (SameF.trans (b := sumF (addR a b) (0 - a.1, a.2)) (by omega) ofF_same hback)
  have hok : addOk (addR a b) (0 - a.1, a.2) = true := (addOk_iff _ _).2 ⟨hv, neg_valid ha, by rw [he]; exact hb⟩
  exact ⟨hok, by rw [addR_yes hok, he]⟩
/-- **A sum is exact** (promise 31), **a product, too** (promise 32). -/
theorem add_exact {a b : Fr} (h : addOk a b = true) (h2 : ofOk (a.1 * b.2 + b.1 * a.2) (a.2 * b.2) = true) : ofR (a.1 * b.2 + b.1 * a.2) (a.2 * b.2) = addR a b := by rw [ofR_yes h2, addR_yes h]; rfl
theorem mul_comm_ok (a b : Fr) : mulOk b a = mulOk a b ∧ mulR b a = mulR a b := by
  have e : mulOk b a = mulOk a b := by
    rw [Bool.eq_iff_iff, mulOk_iff, mulOk_iff, proF_comm b a]
    exact ⟨fun ⟨h1, h2, h3⟩ => ⟨h2, h1, h3⟩, fun ⟨h1, h2, h3⟩ => ⟨h2, h1, h3⟩⟩
  exact ⟨e, by unfold mulR; rw [e, proF_comm b a]⟩
theorem mul_exact {a b : Fr} (h : mulOk a b = true) (h2 : ofOk (a.1 * b.1) (a.2 * b.2) = true) : ofR (a.1 * b.1) (a.2 * b.2) = mulR a b := by rw [ofR_yes h2, mulR_yes h]; rfl
/-- **Products of sums are sums of products** (promise 33). -/
theorem over_exact {a b k : Fr} (h : addOk a b = true) (h1 : mulOk a k = true) (h2 : mulOk b k = true) (h3 : mulOk (addR a b) k = true) (h4 : addOk (mulR a k) (mulR b k) = true) : addR (mulR a k) (mulR b k) = mulR (addR a b) k := by
  obtain ⟨ha, hb, _⟩ := (addOk_iff a b).1 h
  have hk := ((mulOk_iff a k).1 h1).2.1
  have da := fracB_den ha
  have db := fracB_den hb
  have dk := fracB_den hk
  have dx := fracB_den (mulR_valid h1)
  have dy := fracB_den (mulR_valid h2)
  have ds := fracB_den (addR_valid h)
  have sx : SameF (mulR a k) (proF a k) := by rw [mulR_yes h1]; exact ofF_same
  have sy : SameF (mulR b k) (proF b k) := by rw [mulR_yes h2]; exact ofF_same
  have ss : SameF (addR a b) (sumF a b) := by rw [addR_yes h]; exact ofF_same
  have s1 : SameF (addR (mulR a k) (mulR b k)) (sumF (mulR a k) (mulR b k)) := by rw [addR_yes h4]; exact ofF_same
  have s2 : SameF (mulR (addR a b) k) (proF (addR a b) k) := by rw [mulR_yes h3]; exact ofF_same
  have dpa := proF_pos (a := a) (b := k) da dk
  have dpb := proF_pos (a := b) (b := k) db dk
  have t1 : SameF (sumF (mulR a k) (mulR b k)) (sumF (proF a k) (mulR b k)) := sumF_same sx
  have t2 : SameF (sumF (proF a k) (mulR b k)) (sumF (proF a k) (proF b k)) := by
    rw [sumF_comm (proF a k) (mulR b k), sumF_comm (proF a k) (proF b k)]; exact sumF_same sy
  have t3 : SameF (proF (addR a b) k) (proF (sumF a b) k) := proF_same ss
  have t4 := over_same a b k
  refine red_eq (fracB_red (addR_valid h4)) (fracB_red (mulR_valid h3)) ?_
  have n1 : (sumF (mulR a k) (mulR b k)).2 ≠ 0 := by have := sumF_pos (a := mulR a k) (b := mulR b k) dx dy; omega
  have n2 : (sumF (proF a k) (mulR b k)).2 ≠ 0 := by have := sumF_pos (a := proF a k) (b := mulR b k) dpa dy; omega
  have n3 : (sumF (proF a k) (proF b k)).2 ≠ 0 := by have := sumF_pos (a := proF a k) (b := proF b k) dpa dpb; omega
  have n4 : (proF (sumF a b) k).2 ≠ 0 := by have := proF_pos (a := sumF a b) (b := k) (sumF_pos da db) dk; omega
  have n5 : (proF (addR a b) k).2 ≠ 0 := by have := proF_pos (a := addR a b) (b := k) ds dk; omega
  exact SameF.trans n1 s1 (SameF.trans n2 t1 (SameF.trans n3 t2 (SameF.trans n4 (same_symm t4) (SameF.trans n5 (same_symm t3) (same_symm s2)))))
/-- **One of two fractions is less, or both are equal** (promise 34). -/
theorem less_law {a b : Fr} (ha : fracB a = true) (hb : fracB b = true) : (lessB a b && lessB b a) = false ∧ (decide (a = b) = (!lessB a b && !lessB b a)) := by
  have h := less_one (fracB_red ha) (fracB_red hb)
  have e1 : lessB a b = lessF a b := by simp [lessB, ha, hb]
  have e2 : lessB b a = lessF b a := by simp [lessB, ha, hb]
  rw [e1, e2]
  refine ⟨?_, ?_⟩
  · cases h1 : lessF a b <;> cases h2 : lessF b a <;> first | rfl | exact absurd ⟨h1, h2⟩ h.1
  · rw [Bool.eq_iff_iff, decide_eq_true_eq, h.2]; simp
/-- **A sum with a greater fraction is greater** (promise 35). -/
theorem less_add {a b k : Fr} (h : lessB a b = true) (h1 : addOk a k = true) (h2 : addOk b k = true) : lessB (addR a k) (addR b k) = true := by
  obtain ⟨ha, hb, hl⟩ := (lessB_iff a b).1 h
  have hk := ((addOk_iff a k).1 h1).2.1
  have da := fracB_den ha
  have db := fracB_den hb
  have dk := fracB_den hk
  have va := addR_valid h1
  have vb := addR_valid h2
  refine (lessB_iff _ _).2 ⟨va, vb, ?_⟩
  have sa : SameF (sumF a k) (addR a k) := by rw [addR_yes h1]; exact same_symm ofF_same
  have sb : SameF (sumF b k) (addR b k) := by rw [addR_yes h2]; exact same_symm ofF_same
  have h3 := less_sum dk hl
  rw [(less_same (sumF_pos da dk) (fracB_den va) sa).1] at h3
  rwa [(less_same (sumF_pos db dk) (fracB_den vb) sb).2] at h3
/-- **A fraction has no common factor** (promise 37). -/
theorem part_two (f : Fr) : fracB (2 * f.1, 2 * f.2) = false := by
  cases hv : fracB (2 * f.1, 2 * f.2)
  · rfl
  · exfalso
    have h3 := ((fracB_iff _).1 hv).2.2
    have : gcdI (2 * f.1) (2 * f.2) = 2 * gcdI f.1 f.2 := by
      unfold gcdI
      rw [Int.natAbs_mul, Int.natAbs_mul]; exact Nat.gcd_mul_left _ _ _
    have h4 : gcdI (2 * f.1) (2 * f.2) = 1 := h3
    omega
theorem part_zero (n : Int) : fracB (n, 0) = false := by
  cases hv : fracB (n, 0)
  · rfl
  · have h2 := ((fracB_iff _).1 hv).2.1
    have : (1 : Int) ≤ 0 := h2.1
    omega

/-- The loop of the greatest common divisor. -/
theorem gcd_step (a b : Nat) : Nat.gcd b (a % b) = Nat.gcd a b := by rw [Nat.gcd_comm b, ← Nat.gcd_rec, Nat.gcd_comm]
theorem max_abs (n : Int) (h : -9223372036854775807 ≤ n) : (if n < 0 - n then 0 - n else n) = (n.natAbs : Int) := by split <;> omega

end Go.Proofs.YtoancpdiilofmaaDoor
