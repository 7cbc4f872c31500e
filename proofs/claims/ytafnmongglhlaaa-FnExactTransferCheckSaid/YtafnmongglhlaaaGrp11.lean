/-
  Fractions, as pairs: reduced ones, sums, products, the order. Of no memory.
  Fractions, as pairs: what the functions of chapter 5 return; the laws of their promises. Of no memory.
  What a fraction is worth (a rational number), and which denominators sums have. Of no memory.
-/
import Derived.Test.YtafnmongglhlaaaGrp1
namespace Go.Proofs.Ytafnmongglhlaaa

abbrev Fr := Int × Int
def gcdI (a b : Int) : Nat := Nat.gcd a.natAbs b.natAbs
/-- A fraction is valid. -/
def fracB (f : Fr) : Bool := inB f.1 (-9999999) 9999999 && (inB f.2 1 9999999 && decide (gcdI f.1 f.2 = 1))
theorem fracB_iff (f : Fr) : fracB f = true ↔ (-9999999 ≤ f.1 ∧ f.1 ≤ 9999999) ∧ (1 ≤ f.2 ∧ f.2 ≤ 9999999) ∧ gcdI f.1 f.2 = 1 := by simp [fracB, inB]
/-- Reduced, with a denominator greater than 0. -/
def Red (f : Fr) : Prop := 0 < f.2 ∧ gcdI f.1 f.2 = 1
theorem fracB_red {f : Fr} (h : fracB f = true) : Red f := by obtain ⟨_, h2, h3⟩ := (fracB_iff f).1 h; exact ⟨by omega, h3⟩
/-- The fraction without common factors. -/
def ofF (n d : Int) : Fr := (n / (gcdI n d : Int), d / (gcdI n d : Int))
/-- Two fractions are one number. -/
def SameF (a b : Fr) : Prop := a.1 * b.2 = b.1 * a.2

theorem gcdI_pos {n d : Int} (hd : 0 < d) : 0 < gcdI n d := Nat.gcd_pos_of_pos_right _ (by omega)
theorem gcdI_dvd_left (n d : Int) : (gcdI n d : Int) ∣ n := by
  have : gcdI n d ∣ n.natAbs := Nat.gcd_dvd_left _ _
  exact Int.ofNat_dvd_left.2 this
theorem gcdI_dvd_right (n d : Int) : (gcdI n d : Int) ∣ d := by
  have : gcdI n d ∣ d.natAbs := Nat.gcd_dvd_right _ _
  exact Int.ofNat_dvd_left.2 this
theorem ofF_mul (n d : Int) : (ofF n d).1 * (gcdI n d : Int) = n ∧ (ofF n d).2 * (gcdI n d : Int) = d :=
  ⟨Int.ediv_mul_cancel (gcdI_dvd_left n d), Int.ediv_mul_cancel (gcdI_dvd_right n d)⟩
theorem ofF_red {n d : Int} (hd : 0 < d) : Red (ofF n d) := by
  have hg := gcdI_pos (n := n) hd
  obtain ⟨h1, h2⟩ := ofF_mul n d
  constructor
  · apply Int.pos_of_mul_pos_left (b := (gcdI n d : Int)) _ (by omega)
    omega
  · have e1 : (ofF n d).1.natAbs * gcdI n d = n.natAbs := by
      have := congrArg Int.natAbs h1
      rwa [Int.natAbs_mul, Int.natAbs_natCast] at this
    have e2 : (ofF n d).2.natAbs * gcdI n d = d.natAbs := by
      have := congrArg Int.natAbs h2
      rwa [Int.natAbs_mul, Int.natAbs_natCast] at this
    have e3 : gcdI (ofF n d).1 (ofF n d).2 * gcdI n d = gcdI n d := by
      unfold gcdI at e1 e2 ⊢
      rw [← Nat.gcd_mul_right, e1, e2]
    exact Nat.eq_of_mul_eq_mul_right hg (by rw [e3, Nat.one_mul])
theorem ofF_same {n d : Int} : SameF (ofF n d) (n, d) := by
  obtain ⟨h1, h2⟩ := ofF_mul n d
  show (ofF n d).1 * d = n * (ofF n d).2
  obtain ⟨u, hu⟩ : ∃ u, (ofF n d).1 = u := ⟨_, rfl⟩
  obtain ⟨v, hv⟩ : ∃ v, (ofF n d).2 = v := ⟨_, rfl⟩
  rw [hu] at h1 ⊢
  rw [hv] at h2 ⊢
  calc u * d = u * (v * (gcdI n d : Int)) := by rw [h2]
    _ = u * (gcdI n d : Int) * v := by rw [Int.mul_comm v, Int.mul_assoc]
    _ = n * v := by rw [h1]
/-- Reduced fractions that are one number are the same. -/
theorem red_eq {a b : Fr} (ha : Red a) (hb : Red b) (h : SameF a b) : a = b := by
  obtain ⟨a1, a2⟩ := ha
  obtain ⟨b1, b2⟩ := hb
  have hn : a.1.natAbs * b.2.natAbs = b.1.natAbs * a.2.natAbs := by
    rw [← Int.natAbs_mul, ← Int.natAbs_mul, h]
  have d1 : a.2.natAbs ∣ b.2.natAbs := by
    have : a.2.natAbs ∣ a.1.natAbs * b.2.natAbs := by rw [hn]; exact Nat.dvd_mul_left _ _
    exact Nat.Coprime.dvd_of_dvd_mul_left (Nat.Coprime.symm a2) this
  have d2 : b.2.natAbs ∣ a.2.natAbs := by
    have : b.2.natAbs ∣ b.1.natAbs * a.2.natAbs := by rw [← hn]; exact Nat.dvd_mul_left _ _
    exact Nat.Coprime.dvd_of_dvd_mul_left (Nat.Coprime.symm b2) this
  have e : a.2 = b.2 := by have := Nat.dvd_antisymm d1 d2; omega
  unfold SameF at h
  rw [e] at h
  exact Prod.ext (Int.eq_of_mul_eq_mul_right (by omega) h) e
theorem SameF.symm {a b : Fr} (h : SameF a b) : SameF b a := by unfold SameF at *; rw [h]
theorem SameF.trans {a b c : Fr} (hb : b.2 ≠ 0) (h : SameF a b) (k : SameF b c) : SameF a c := by
  unfold SameF at *
  apply Int.eq_of_mul_eq_mul_right hb
  calc a.1 * c.2 * b.2 = (a.1 * b.2) * c.2 := by rw [Int.mul_assoc, Int.mul_comm c.2, ← Int.mul_assoc]
    _ = (b.1 * c.2) * a.2 := by rw [h, Int.mul_assoc, Int.mul_comm a.2, ← Int.mul_assoc]
    _ = c.1 * a.2 * b.2 := by rw [k, Int.mul_assoc, Int.mul_comm b.2, ← Int.mul_assoc]
/-- The sum, the product: not reduced. -/
def sumF (a b : Fr) : Fr := (a.1 * b.2 + b.1 * a.2, a.2 * b.2)
def proF (a b : Fr) : Fr := (a.1 * b.1, a.2 * b.2)
theorem sumF_comm (a b : Fr) : sumF a b = sumF b a := by
  unfold sumF
  rw [Int.add_comm, Int.mul_comm a.2]
theorem proF_comm (a b : Fr) : proF a b = proF b a := by
  unfold proF
  rw [Int.mul_comm a.1, Int.mul_comm a.2]

/-- The order. -/
def lessF (a b : Fr) : Bool := decide (a.1 * b.2 < b.1 * a.2)
theorem less_one {a b : Fr} (ha : Red a) (hb : Red b) : ¬ (lessF a b = true ∧ lessF b a = true) ∧ (a = b ↔ lessF a b = false ∧ lessF b a = false) := by
  simp only [lessF, decide_eq_true_eq, decide_eq_false_iff_not]
  refine ⟨fun ⟨h1, h2⟩ => by omega, fun h => by subst h; exact ⟨by omega, by omega⟩, fun ⟨h1, h2⟩ => red_eq ha hb (by unfold SameF; omega)⟩
theorem sumF_pos {a b : Fr} (ha : 0 < a.2) (hb : 0 < b.2) : 0 < (sumF a b).2 := Int.mul_pos ha hb
theorem proF_pos {a b : Fr} (ha : 0 < a.2) (hb : 0 < b.2) : 0 < (proF a b).2 := Int.mul_pos ha hb
/-- Sums and products of one number are one number. -/
theorem sumF_same {a b c : Fr} (h : SameF a b) : SameF (sumF a c) (sumF b c) := by
  unfold SameF sumF at *
  grind
theorem proF_same {a b c : Fr} (h : SameF a b) : SameF (proF a c) (proF b c) := by
  unfold SameF proF at *
  grind
/-- A sum less one of its parts is the other. -/
theorem sum_back (a b : Fr) : SameF (sumF (sumF a b) (0 - a.1, a.2)) (b.1 * a.2 * a.2, b.2 * a.2 * a.2) := by
  unfold SameF sumF
  grind
theorem scale_same (b : Fr) (k : Int) : SameF (b.1 * k, b.2 * k) b := by
  unfold SameF
  grind
/-- Products of sums are sums of products. -/
theorem over_same (a b k : Fr) : SameF (proF (sumF a b) k) (sumF (proF a k) (proF b k)) := by
  unfold SameF proF sumF
  grind
/-- A sum with a greater fraction is greater. -/
theorem less_sum {a b k : Fr} (hk : 0 < k.2) (h : lessF a b = true) : lessF (sumF a k) (sumF b k) = true := by
  simp only [lessF, sumF, decide_eq_true_eq] at *
  have h1 : 0 < k.2 * k.2 := Int.mul_pos hk hk
  have h2 : a.1 * b.2 * (k.2 * k.2) < b.1 * a.2 * (k.2 * k.2) := Int.mul_lt_mul_of_pos_right h h1
  grind
/-- The order hangs on the numbers alone. -/
theorem less_same_imp {a b c : Fr} (ha : 0 < a.2) (hb : 0 < b.2) (h : SameF a b) (g : a.1 * c.2 < c.1 * a.2) : b.1 * c.2 < c.1 * b.2 := by
  unfold SameF at h
  have h2 : a.1 * c.2 * b.2 < c.1 * a.2 * b.2 := Int.mul_lt_mul_of_pos_right g hb
  have e1 : a.1 * c.2 * b.2 = b.1 * c.2 * a.2 := by
    rw [Int.mul_right_comm a.1, h]
    simp only [Int.mul_comm, Int.mul_left_comm]
  have e2 : c.1 * a.2 * b.2 = c.1 * b.2 * a.2 := Int.mul_right_comm _ _ _
  rw [e1, e2] at h2
  exact Int.lt_of_mul_lt_mul_right h2 (Int.le_of_lt ha)

theorem less_same_imp' {a b c : Fr} (ha : 0 < a.2) (hb : 0 < b.2) (h : SameF a b) (g : c.1 * a.2 < a.1 * c.2) : c.1 * b.2 < b.1 * c.2 := by
  unfold SameF at h
  have h2 : c.1 * a.2 * b.2 < a.1 * c.2 * b.2 := Int.mul_lt_mul_of_pos_right g hb
  have e1 : a.1 * c.2 * b.2 = b.1 * c.2 * a.2 := by
    rw [Int.mul_right_comm a.1, h]
    simp only [Int.mul_comm, Int.mul_left_comm]
  have e2 : c.1 * a.2 * b.2 = c.1 * b.2 * a.2 := Int.mul_right_comm _ _ _
  rw [e1, e2] at h2
  exact Int.lt_of_mul_lt_mul_right h2 (Int.le_of_lt ha)

theorem same_symm {a b : Fr} (h : SameF a b) : SameF b a := by
  unfold SameF at h ⊢
  rw [h]

theorem less_same {a b c : Fr} (ha : 0 < a.2) (hb : 0 < b.2) (h : SameF a b) : lessF a c = lessF b c ∧ lessF c a = lessF c b := by
  simp only [lessF, decide_eq_decide]
  exact ⟨⟨less_same_imp ha hb h, less_same_imp hb ha (same_symm h)⟩, ⟨less_same_imp' ha hb h, less_same_imp' hb ha (same_symm h)⟩⟩

end Go.Proofs.Ytafnmongglhlaaa

namespace Go.Proofs.Ytafnmongglhlaaa

/-- Bounds. -/
theorem mul_bound {x y : Int} (hx : -9999999 ≤ x ∧ x ≤ 9999999) (hy : 0 ≤ y ∧ y ≤ 9999999) : -99999980000001 ≤ x * y ∧ x * y ≤ 99999980000001 := by
  have h1 : x * y ≤ 9999999 * y := Int.mul_le_mul_of_nonneg_right hx.2 hy.1
  have h2 : -9999999 * y ≤ x * y := Int.mul_le_mul_of_nonneg_right hx.1 hy.1
  omega
theorem mul_bound2 {x y : Int} (hx : -9999999 ≤ x ∧ x ≤ 9999999) (hy : -9999999 ≤ y ∧ y ≤ 9999999) : -99999980000001 ≤ x * y ∧ x * y ≤ 99999980000001 := by
  rcases Int.le_total 0 y with h | h
  · exact mul_bound hx ⟨h, hy.2⟩
  · have := mul_bound hx (y := -y) ⟨by omega, by omega⟩
    rw [Int.mul_neg] at this
    omega

theorem fracB_of {f : Fr} (h1 : -9999999 ≤ f.1 ∧ f.1 ≤ 9999999) (h2 : 1 ≤ f.2 ∧ f.2 ≤ 9999999) (h3 : gcdI f.1 f.2 = 1) : fracB f = true := (fracB_iff f).2 ⟨h1, h2, h3⟩
theorem fracB_den {f : Fr} (h : fracB f = true) : 0 < f.2 := by have := (fracB_iff f).1 h; omega
/-- A number is not made greater by division. -/
theorem ofF_bound {n d : Int} (hd : 0 < d) : (ofF n d).1.natAbs ≤ n.natAbs ∧ 1 ≤ (ofF n d).2 ∧ (ofF n d).2 ≤ d := by
  have hg := gcdI_pos (n := n) hd
  obtain ⟨h1, h2⟩ := ofF_mul n d
  have hr := (ofF_red (n := n) hd).1
  refine ⟨?_, by omega, ?_⟩
  · have e1 : (ofF n d).1.natAbs * gcdI n d = n.natAbs := by
      have := congrArg Int.natAbs h1
      rwa [Int.natAbs_mul, Int.natAbs_natCast] at this
    rw [← e1]; exact Nat.le_mul_of_pos_right _ hg
  · have h3 : (ofF n d).2 * 1 ≤ (ofF n d).2 * (gcdI n d : Int) := Int.mul_le_mul_of_nonneg_left (by omega) (by omega)
    omega
theorem ofF_self {f : Fr} (h : Red f) : ofF f.1 f.2 = f := red_eq (ofF_red h.1) h ofF_same
/-- The fraction of a number hangs on the number alone. -/
theorem ofF_same_eq {n d n' d' : Int} (hd : 0 < d) (hd' : 0 < d') (h : n * d' = n' * d) : ofF n d = ofF n' d' :=
  red_eq (ofF_red hd) (ofF_red hd') ((SameF.trans (b := (n, d)) (by show d ≠ 0; omega) ofF_same (SameF.trans (b := (n', d')) (by show d' ≠ 0; omega) h (same_symm ofF_same))))

/-- FracOf. -/
def ofOk (n d : Int) : Bool := inB n (-9999999) 9999999 && inB d 1 9999999
def ofR (n d : Int) : Fr := if ofOk n d = true then ofF n d else (0, 0)
theorem ofOk_iff (n d : Int) : ofOk n d = true ↔ (-9999999 ≤ n ∧ n ≤ 9999999) ∧ 1 ≤ d ∧ d ≤ 9999999 := by simp [ofOk, inB]
theorem ofR_yes {n d : Int} (h : ofOk n d = true) : ofR n d = ofF n d := by rw [ofR, if_pos h]
theorem ofR_no {n d : Int} (h : ofOk n d = false) : ofR n d = (0, 0) := by rw [ofR, h]; rfl
/-- FracAdd, FracTimes. -/
def addOk (a b : Fr) : Bool := fracB a && (fracB b && fracB (ofF (sumF a b).1 (sumF a b).2))
def addR (a b : Fr) : Fr := if addOk a b = true then ofF (sumF a b).1 (sumF a b).2 else (0, 0)
def mulOk (a b : Fr) : Bool := fracB a && (fracB b && fracB (ofF (proF a b).1 (proF a b).2))
def mulR (a b : Fr) : Fr := if mulOk a b = true then ofF (proF a b).1 (proF a b).2 else (0, 0)
/-- FracLess. -/
def lessB (a b : Fr) : Bool := fracB a && (fracB b && lessF a b)
theorem addOk_iff (a b : Fr) : addOk a b = true ↔ fracB a = true ∧ fracB b = true ∧ fracB (ofF (sumF a b).1 (sumF a b).2) = true := by simp [addOk]
theorem mulOk_iff (a b : Fr) : mulOk a b = true ↔ fracB a = true ∧ fracB b = true ∧ fracB (ofF (proF a b).1 (proF a b).2) = true := by simp [mulOk]
theorem lessB_iff (a b : Fr) : lessB a b = true ↔ fracB a = true ∧ fracB b = true ∧ lessF a b = true := by simp [lessB]
theorem addR_yes {a b : Fr} (h : addOk a b = true) : addR a b = ofF (sumF a b).1 (sumF a b).2 := by rw [addR, if_pos h]
theorem addR_no {a b : Fr} (h : addOk a b = false) : addR a b = (0, 0) := by rw [addR, h]; rfl
theorem mulR_yes {a b : Fr} (h : mulOk a b = true) : mulR a b = ofF (proF a b).1 (proF a b).2 := by rw [mulR, if_pos h]
theorem mulR_no {a b : Fr} (h : mulOk a b = false) : mulR a b = (0, 0) := by rw [mulR, h]; rfl
/-- What is summed up or multiplied fits into an int. -/
theorem sumF_bound {a b : Fr} (ha : fracB a = true) (hb : fracB b = true) : (-199999960000002 ≤ (sumF a b).1 ∧ (sumF a b).1 ≤ 199999960000002) ∧ 0 < (sumF a b).2 ∧ (sumF a b).2 ≤ 99999980000001 := by
  obtain ⟨a1, a2, _⟩ := (fracB_iff a).1 ha
  obtain ⟨b1, b2, _⟩ := (fracB_iff b).1 hb
  have h1 := mul_bound a1 (y := b.2) ⟨by omega, by omega⟩
  have h2 := mul_bound b1 (y := a.2) ⟨by omega, by omega⟩
  have h3 := mul_bound (x := a.2) ⟨by omega, by omega⟩ (y := b.2) ⟨by omega, by omega⟩
  have h4 := sumF_pos (a := a) (b := b) (by omega) (by omega)
  unfold sumF at *
  exact ⟨⟨by omega, by omega⟩, h4, h3.2⟩
theorem proF_bound {a b : Fr} (ha : fracB a = true) (hb : fracB b = true) : (-99999980000001 ≤ (proF a b).1 ∧ (proF a b).1 ≤ 99999980000001) ∧ 0 < (proF a b).2 ∧ (proF a b).2 ≤ 99999980000001 := by
  obtain ⟨a1, a2, _⟩ := (fracB_iff a).1 ha
  obtain ⟨b1, b2, _⟩ := (fracB_iff b).1 hb
  have h1 := mul_bound2 a1 b1
  have h3 := mul_bound (x := a.2) ⟨by omega, by omega⟩ (y := b.2) ⟨by omega, by omega⟩
  have h4 := proF_pos (a := a) (b := b) (by omega) (by omega)
  unfold proF at *
  exact ⟨h1, h4, h3.2⟩
theorem addR_valid {a b : Fr} (h : addOk a b = true) : fracB (addR a b) = true := by rw [addR_yes h]; exact ((addOk_iff a b).1 h).2.2
theorem mulR_valid {a b : Fr} (h : mulOk a b = true) : fracB (mulR a b) = true := by rw [mulR_yes h]; exact ((mulOk_iff a b).1 h).2.2

/-- **A fraction is reduced** (promise 29). -/
theorem of_valid {n d : Int} (h : ofOk n d = true) : fracB (ofR n d) = true ∧ (ofR n d).1 * d = n * (ofR n d).2 := by
  obtain ⟨h1, h2⟩ := (ofOk_iff n d).1 h
  have hd : 0 < d := by omega
  rw [ofR_yes h]
  obtain ⟨b1, b2, b3⟩ := ofF_bound (n := n) hd
  refine ⟨fracB_of ⟨by omega, by omega⟩ ⟨by omega, by omega⟩ (ofF_red hd).2, ofF_same⟩
theorem of_three {n d : Int} (h : ofOk n d = true) (h3 : ofOk (3 * n) (3 * d) = true) : ofR (3 * n) (3 * d) = ofR n d := by
  obtain ⟨h1, h2⟩ := (ofOk_iff n d).1 h
  rw [ofR_yes h, ofR_yes h3]
  refine ofF_same_eq (by omega) (by omega) ?_
  rw [Int.mul_comm 3 n, Int.mul_assoc]
/-- **Sums have no order** (promise 30). -/
theorem add_comm_ok (a b : Fr) : addOk b a = addOk a b ∧ addR b a = addR a b := by
  have e : addOk b a = addOk a b := by
    rw [Bool.eq_iff_iff, addOk_iff, addOk_iff, sumF_comm b a]
    exact ⟨fun ⟨h1, h2, h3⟩ => ⟨h2, h1, h3⟩, fun ⟨h1, h2, h3⟩ => ⟨h2, h1, h3⟩⟩
  exact ⟨e, by unfold addR; rw [e, sumF_comm b a]⟩
theorem neg_valid {a : Fr} (h : fracB a = true) : fracB (0 - a.1, a.2) = true := by
  obtain ⟨h1, h2, h3⟩ := (fracB_iff a).1 h
  refine fracB_of ⟨by show -9999999 ≤ 0 - a.1; omega, by show 0 - a.1 ≤ 9999999; omega⟩ h2 ?_
  show gcdI (0 - a.1) a.2 = 1
  unfold gcdI at h3 ⊢
  rw [Int.zero_sub, Int.natAbs_neg]; exact h3
theorem add_back {a b : Fr} (h : addOk a b = true) : addOk (addR a b) (0 - a.1, a.2) = true ∧ addR (addR a b) (0 - a.1, a.2) = b := by
  obtain ⟨ha, hb, hs⟩ := (addOk_iff a b).1 h
  have da := fracB_den ha
  have db := fracB_den hb
  have hsd := sumF_pos (a := a) (b := b) da db
  have hv := addR_valid h
  have dr := fracB_den hv
  have hS : SameF (addR a b) (sumF a b) := by rw [addR_yes h]; exact ofF_same
  have hback : SameF (sumF (addR a b) (0 - a.1, a.2)) b := by
    refine SameF.trans (b := sumF (sumF a b) (0 - a.1, a.2)) ?_ (sumF_same hS) (SameF.trans (b := (b.1 * a.2 * a.2, b.2 * a.2 * a.2)) ?_ (sum_back a b) ?_)
    · have := sumF_pos (a := sumF a b) (b := (0 - a.1, a.2)) hsd da
      omega
    · show b.2 * a.2 * a.2 ≠ 0
      have := Int.mul_pos (Int.mul_pos db da) da
      omega
    · have := scale_same b (a.2 * a.2)
      rwa [← Int.mul_assoc, ← Int.mul_assoc] at this
  have hd2 : 0 < (sumF (addR a b) (0 - a.1, a.2)).2 := sumF_pos (a := addR a b) (b := (0 - a.1, a.2)) dr da
  have he : ofF (sumF (addR a b) (0 - a.1, a.2)).1 (sumF (addR a b) (0 - a.1, a.2)).2 = b :=
    red_eq (ofF_red hd2) (fracB_red hb) (SameF.trans (b := sumF (addR a b) (0 - a.1, a.2)) (by omega) ofF_same hback)
  have hok : addOk (addR a b) (0 - a.1, a.2) = true := (addOk_iff _ _).2 ⟨hv, neg_valid ha, by rw [he]; exact hb⟩
  exact ⟨hok, by rw [addR_yes hok, he]⟩
/-- **A sum is exact** (promise 31), **a product, too** (promise 32). -/
theorem add_exact {a b : Fr} (h : addOk a b = true) (h2 : ofOk (a.1 * b.2 + b.1 * a.2) (a.2 * b.2) = true) : ofR (a.1 * b.2 + b.1 * a.2) (a.2 * b.2) = addR a b := by rw [ofR_yes h2, addR_yes h]; rfl
theorem mul_comm_ok (a b : Fr) : mulOk b a = mulOk a b ∧ mulR b a = mulR a b := by
  have e : mulOk b a = mulOk a b := by
    rw [Bool.eq_iff_iff, mulOk_iff, mulOk_iff, proF_comm b a]
    exact ⟨fun ⟨h1, h2, h3⟩ => ⟨h2, h1, h3⟩, fun ⟨h1, h2, h3⟩ => ⟨h2, h1, h3⟩⟩
  exact ⟨e, by unfold mulR; rw [e, proF_comm b a]⟩
theorem mul_exact {a b : Fr} (h : mulOk a b = true) (h2 : ofOk (a.1 * b.1) (a.2 * b.2) = true) : ofR (a.1 * b.1) (a.2 * b.2) = mulR a b := by rw [ofR_yes h2, mulR_yes h]; rfl
/-- **Products of sums are sums of products** (promise 33). -/
theorem over_exact {a b k : Fr} (h : addOk a b = true) (h1 : mulOk a k = true) (h2 : mulOk b k = true) (h3 : mulOk (addR a b) k = true) (h4 : addOk (mulR a k) (mulR b k) = true) : addR (mulR a k) (mulR b k) = mulR (addR a b) k := by
  obtain ⟨ha, hb, _⟩ := (addOk_iff a b).1 h
  have hk := ((mulOk_iff a k).1 h1).2.1
  have da := fracB_den ha
  have db := fracB_den hb
  have dk := fracB_den hk
  have dx := fracB_den (mulR_valid h1)
  have dy := fracB_den (mulR_valid h2)
  have ds := fracB_den (addR_valid h)
  have sx : SameF (mulR a k) (proF a k) := by rw [mulR_yes h1]; exact ofF_same
  have sy : SameF (mulR b k) (proF b k) := by rw [mulR_yes h2]; exact ofF_same
  have ss : SameF (addR a b) (sumF a b) := by rw [addR_yes h]; exact ofF_same
  have s1 : SameF (addR (mulR a k) (mulR b k)) (sumF (mulR a k) (mulR b k)) := by rw [addR_yes h4]; exact ofF_same
  have s2 : SameF (mulR (addR a b) k) (proF (addR a b) k) := by rw [mulR_yes h3]; exact ofF_same
  have dpa := proF_pos (a := a) (b := k) da dk
  have dpb := proF_pos (a := b) (b := k) db dk
  have t1 : SameF (sumF (mulR a k) (mulR b k)) (sumF (proF a k) (mulR b k)) := sumF_same sx
  have t2 : SameF (sumF (proF a k) (mulR b k)) (sumF (proF a k) (proF b k)) := by
    rw [sumF_comm (proF a k) (mulR b k), sumF_comm (proF a k) (proF b k)]; exact sumF_same sy
  have t3 : SameF (proF (addR a b) k) (proF (sumF a b) k) := proF_same ss
  have t4 := over_same a b k
  refine red_eq (fracB_red (addR_valid h4)) (fracB_red (mulR_valid h3)) ?_
  have n1 : (sumF (mulR a k) (mulR b k)).2 ≠ 0 := by have := sumF_pos (a := mulR a k) (b := mulR b k) dx dy; omega
  have n2 : (sumF (proF a k) (mulR b k)).2 ≠ 0 := by have := sumF_pos (a := proF a k) (b := mulR b k) dpa dy; omega
  have n3 : (sumF (proF a k) (proF b k)).2 ≠ 0 := by have := sumF_pos (a := proF a k) (b := proF b k) dpa dpb; omega
  have n4 : (proF (sumF a b) k).2 ≠ 0 := by have := proF_pos (a := sumF a b) (b := k) (sumF_pos da db) dk; omega
  have n5 : (proF (addR a b) k).2 ≠ 0 := by have := proF_pos (a := addR a b) (b := k) ds dk; omega
  exact SameF.trans n1 s1 (SameF.trans n2 t1 (SameF.trans n3 t2 (SameF.trans n4 (same_symm t4) (SameF.trans n5 (same_symm t3) (same_symm s2)))))
/-- **One of two fractions is less, or both are equal** (promise 34). -/
theorem less_law {a b : Fr} (ha : fracB a = true) (hb : fracB b = true) : (lessB a b && lessB b a) = false ∧ (decide (a = b) = (!lessB a b && !lessB b a)) := by
  have h := less_one (fracB_red ha) (fracB_red hb)
  have e1 : lessB a b = lessF a b := by simp [lessB, ha, hb]
  have e2 : lessB b a = lessF b a := by simp [lessB, ha, hb]
  rw [e1, e2]
  refine ⟨?_, ?_⟩
  · cases h1 : lessF a b <;> cases h2 : lessF b a <;> first | rfl | exact absurd ⟨h1, h2⟩ h.1
  · rw [Bool.eq_iff_iff, decide_eq_true_eq, h.2]; simp
/-- **A sum with a greater fraction is greater** (promise 35). -/
theorem less_add {a b k : Fr} (h : lessB a b = true) (h1 : addOk a k = true) (h2 : addOk b k = true) : lessB (addR a k) (addR b k) = true := by
  obtain ⟨ha, hb, hl⟩ := (lessB_iff a b).1 h
  have hk := ((addOk_iff a k).1 h1).2.1
  have da := fracB_den ha
  have db := fracB_den hb
  have dk := fracB_den hk
  have va := addR_valid h1
  have vb := addR_valid h2
  refine (lessB_iff _ _).2 ⟨va, vb, ?_⟩
  have sa : SameF (sumF a k) (addR a k) := by rw [addR_yes h1]; exact same_symm ofF_same
  have sb : SameF (sumF b k) (addR b k) := by rw [addR_yes h2]; exact same_symm ofF_same
  have h3 := less_sum dk hl
  rw [(less_same (sumF_pos da dk) (fracB_den va) sa).1] at h3
  rwa [(less_same (sumF_pos db dk) (fracB_den vb) sb).2] at h3
/-- **A fraction has no common factor** (promise 37). -/
theorem part_two (f : Fr) : fracB (2 * f.1, 2 * f.2) = false := by
  cases hv : fracB (2 * f.1, 2 * f.2)
  · rfl
  · exfalso
    have h3 := ((fracB_iff _).1 hv).2.2
    have : gcdI (2 * f.1) (2 * f.2) = 2 * gcdI f.1 f.2 := by
      unfold gcdI
      rw [Int.natAbs_mul, Int.natAbs_mul]; exact Nat.gcd_mul_left _ _ _
    have h4 : gcdI (2 * f.1) (2 * f.2) = 1 := h3
    omega
theorem part_zero (n : Int) : fracB (n, 0) = false := by
  cases hv : fracB (n, 0)
  · rfl
  · have h2 := ((fracB_iff _).1 hv).2.1
    have : (1 : Int) ≤ 0 := h2.1
    omega

/-- The loop of the greatest common divisor. -/
theorem gcd_step (a b : Nat) : Nat.gcd b (a % b) = Nat.gcd a b := by rw [Nat.gcd_comm b, ← Nat.gcd_rec, Nat.gcd_comm]
theorem max_abs (n : Int) (h : -9223372036854775807 ≤ n) : (if n < 0 - n then 0 - n else n) = (n.natAbs : Int) := by split <;> omega

end Go.Proofs.Ytafnmongglhlaaa

namespace Go.Proofs.Ytafnmongglhlaaa

def valR (f : Fr) : Rat := (f.1 : Rat) / (f.2 : Rat)
theorem cast_ne {d : Int} (h : 0 < d) : (d : Rat) ≠ 0 := fun e => by
  have : d = 0 := by exact_mod_cast e
  omega
theorem cast_pos {d : Int} (h : 0 < d) : (0 : Rat) < (d : Rat) := by exact_mod_cast h
theorem val_eq {a b : Fr} (ha : 0 < a.2) (hb : 0 < b.2) : valR a = valR b ↔ SameF a b := by
  have h1 := cast_ne ha
  have h2 := cast_ne hb
  unfold valR SameF
  constructor
  · intro h
    have : (a.1 : Rat) * (b.2 : Rat) = (b.1 : Rat) * (a.2 : Rat) := by grind
    exact_mod_cast this
  · intro h
    have : (a.1 : Rat) * (b.2 : Rat) = (b.1 : Rat) * (a.2 : Rat) := by exact_mod_cast h
    grind
/-- Reduced fractions that are worth the same are equal. -/
theorem val_inj {a b : Fr} (ha : Red a) (hb : Red b) (h : valR a = valR b) : a = b := red_eq ha hb ((val_eq ha.1 hb.1).1 h)
theorem val_of {n d : Int} (hd : 0 < d) : valR (ofF n d) = (n : Rat) / (d : Rat) := (val_eq (ofF_red hd).1 (b := (n, d)) hd).2 ofF_same
theorem val_sum {a b : Fr} (ha : 0 < a.2) (hb : 0 < b.2) : valR (ofF (sumF a b).1 (sumF a b).2) = valR a + valR b := by
  have h1 := cast_ne ha
  have h2 := cast_ne hb
  rw [val_of (sumF_pos ha hb)]
  unfold valR sumF
  have e : ((a.1 * b.2 + b.1 * a.2 : Int) : Rat) = (a.1 : Rat) * (b.2 : Rat) + (b.1 : Rat) * (a.2 : Rat) := by rw [Rat.intCast_add, Rat.intCast_mul, Rat.intCast_mul]
  have e2 : ((a.2 * b.2 : Int) : Rat) = (a.2 : Rat) * (b.2 : Rat) := Rat.intCast_mul _ _
  rw [e, e2]; grind
theorem val_pro {a b : Fr} (ha : 0 < a.2) (hb : 0 < b.2) : valR (ofF (proF a b).1 (proF a b).2) = valR a * valR b := by
  have h1 := cast_ne ha
  have h2 := cast_ne hb
  rw [val_of (proF_pos ha hb)]
  unfold valR proF
  rw [Rat.intCast_mul, Rat.intCast_mul]; grind
theorem val_less {a b : Fr} (ha : 0 < a.2) (hb : 0 < b.2) : lessF a b = true ↔ valR a < valR b := by
  have h1 := cast_pos ha
  have h2 := cast_pos hb
  have n1 := cast_ne ha
  have n2 := cast_ne hb
  unfold lessF valR
  rw [decide_eq_true_iff, Rat.div_lt_iff h1]
  have e : (b.1 : Rat) / (b.2 : Rat) * (a.2 : Rat) = ((b.1 : Rat) * (a.2 : Rat)) / (b.2 : Rat) := by grind
  rw [e, Rat.lt_div_iff h2]
  constructor
  · intro h; exact_mod_cast h
  · intro h; exact_mod_cast h
theorem val_int (n : Int) : valR (n, 1) = (n : Rat) := by
  unfold valR
  have : ((1 : Int) : Rat) = 1 := rfl
  show (n : Rat) / ((1 : Int) : Rat) = _
  rw [this]; grind
/-- A reduced fraction's denominator divides each denominator with which it can be written. -/
theorem red_dvd {f : Fr} (h : Red f) {z D : Int} (e : f.1 * D = z * f.2) : f.2 ∣ D := by
  have h1 : f.2 ∣ f.1 * D := ⟨z, by rw [e, Int.mul_comm]⟩
  have h2 : f.2.natAbs ∣ f.1.natAbs * D.natAbs := by rw [← Int.natAbs_mul]; exact Int.natAbs_dvd_natAbs.2 h1
  have hc : Nat.Coprime f.2.natAbs f.1.natAbs := by
    have := h.2
    unfold gcdI at this
    rw [Nat.gcd_comm] at this
    exact this
  exact Int.natAbs_dvd_natAbs.1 (hc.dvd_of_dvd_mul_left h2)
theorem of_dvd {n d D : Int} (h : d ∣ D) : (ofF n d).2 ∣ D := Int.dvd_trans ⟨_, (ofF_mul n d).2.symm⟩ h
/-- A sum's denominator divides what both denominators divide. -/
theorem sum_dvd {a b : Fr} {D : Int} (ha : 0 < a.2) (hb : 0 < b.2) (h1 : a.2 ∣ D) (h2 : b.2 ∣ D) : (ofF (sumF a b).1 (sumF a b).2).2 ∣ D := by
  obtain ⟨u, hu⟩ := h1
  obtain ⟨v, hv⟩ := h2
  have hs := sumF_pos ha hb
  refine red_dvd (ofF_red hs) (z := a.1 * u + b.1 * v) ?_
  have h := ofF_same (n := (sumF a b).1) (d := (sumF a b).2)
  unfold SameF at h
  have hne : (sumF a b).2 ≠ 0 := by omega
  refine Int.eq_of_mul_eq_mul_right hne ?_
  have e : (sumF a b).1 * D = (a.1 * u + b.1 * v) * (sumF a b).2 := by
    unfold sumF
    show (a.1 * b.2 + b.1 * a.2) * D = (a.1 * u + b.1 * v) * (a.2 * b.2)
    have e1 : a.1 * b.2 * D = a.1 * u * (a.2 * b.2) := by rw [hu]; grind
    have e2 : b.1 * a.2 * D = b.1 * v * (a.2 * b.2) := by rw [hv]; grind
    rw [Int.add_mul, Int.add_mul, e1, e2]
  calc (ofF (sumF a b).1 (sumF a b).2).1 * D * (sumF a b).2
      = ((ofF (sumF a b).1 (sumF a b).2).1 * (sumF a b).2) * D := by grind
    _ = ((sumF a b).1 * (ofF (sumF a b).1 (sumF a b).2).2) * D := by rw [h]
    _ = ((sumF a b).1 * D) * (ofF (sumF a b).1 (sumF a b).2).2 := by grind
    _ = ((a.1 * u + b.1 * v) * (sumF a b).2) * (ofF (sumF a b).1 (sumF a b).2).2 := by rw [e]
    _ = (a.1 * u + b.1 * v) * (ofF (sumF a b).1 (sumF a b).2).2 * (sumF a b).2 := by grind
theorem dvd_le {d D : Int} (hD : 0 < D) (h : d ∣ D) : d ≤ D := Int.le_of_dvd hD h

end Go.Proofs.Ytafnmongglhlaaa
