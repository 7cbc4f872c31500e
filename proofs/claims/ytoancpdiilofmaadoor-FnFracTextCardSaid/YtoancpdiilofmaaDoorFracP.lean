/-
  Fractions, as pairs: reduced ones, sums, products, the order. Of no memory.
-/
import Derived.Test.YtoancpdiilofmaaDoorBase
namespace Go.Proofs.YtoancpdiilofmaaDoor

abbrev Fr := Int × Int
def gcdI (a b : Int) : Nat := Nat.gcd a.natAbs b.natAbs
/-- A fraction is valid. -/
def fracB (f : Fr) : Bool := inB f.1 (-9999999) 9999999 && (inB f.2 1 9999999 && decide (gcdI f.1 f.2 = 1))
theorem fracB_iff (f : Fr) : fracB f = true ↔ (-9999999 ≤ f.1 ∧ f.1 ≤ 9999999) ∧ (1 ≤ f.2 ∧ f.2 ≤ 9999999) ∧ gcdI f.1 f.2 = 1 := by simp [fracB, inB]
/-- Reduced, with a denominator greater than 0. -/
def Red (f : Fr) : Prop := 0 < f.2 ∧ gcdI f.1 f.2 = 1
theorem fracB_red {f : Fr} (h : fracB f = true) : Red f := by obtain ⟨_, h2, h3⟩ := (fracB_iff f).1 h; exact ⟨by omega, h3⟩
/-- The fraction without common factors. -/
def ofF (n d : Int) : Fr := (n / (gcdI n d : Int), d / (gcdI n d : Int))
/-- Two fractions are one number. -/
def SameF (a b : Fr) : Prop := a.1 * b.2 = b.1 * a.2

theorem gcdI_pos {n d : Int} (hd : 0 < d) : 0 < gcdI n d := Nat.gcd_pos_of_pos_right _ (by omega)
theorem gcdI_dvd_left (n d : Int) : (gcdI n d : Int) ∣ n := by
  have : gcdI n d ∣ n.natAbs := Nat.gcd_dvd_left _ _
  exact Int.ofNat_dvd_left.2 this
theorem gcdI_dvd_right (n d : Int) : (gcdI n d : Int) ∣ d := by
  have : gcdI n d ∣ d.natAbs := Nat.gcd_dvd_right _ _
  exact Int.ofNat_dvd_left.2 this
theorem ofF_mul (n d : Int) : (ofF n d).1 * (gcdI n d : Int) = n ∧ (ofF n d).2 * (gcdI n d : Int) = d :=
  ⟨Int.ediv_mul_cancel (gcdI_dvd_left n d), Int.ediv_mul_cancel (gcdI_dvd_right n d)⟩
theorem ofF_red {n d : Int} (hd : 0 < d) : Red (ofF n d) := by
  have hg := gcdI_pos (n := n) hd
  obtain ⟨h1, h2⟩ := ofF_mul n d
  constructor
  · apply Int.pos_of_mul_pos_left (b := (gcdI n d : Int)) _ (by omega)
    omega
  · have e1 : (ofF n d).1.natAbs * gcdI n d = n.natAbs := by
      have := congrArg Int.natAbs h1
      rwa [Int.natAbs_mul, Int.natAbs_natCast] at this
    have e2 : (ofF n d).2.natAbs * gcdI n d = d.natAbs := by
      have := congrArg Int.natAbs h2
      rwa [Int.natAbs_mul, Int.natAbs_natCast] at this
    have e3 : gcdI (ofF n d).1 (ofF n d).2 * gcdI n d = gcdI n d := by
      unfold gcdI at e1 e2 ⊢
      rw [← Nat.gcd_mul_right, e1, e2]
    exact Nat.eq_of_mul_eq_mul_right hg (by rw [e3, Nat.one_mul])
theorem ofF_same {n d : Int} : SameF (ofF n d) (n, d) := by
  obtain ⟨h1, h2⟩ := ofF_mul n d
  show (ofF n d).1 * d = n * (ofF n d).2
  obtain ⟨u, hu⟩ : ∃ u, (ofF n d).1 = u := ⟨_, rfl⟩
  obtain ⟨v, hv⟩ : ∃ v, (ofF n d).2 = v := ⟨_, rfl⟩
  rw [hu] at h1 ⊢
  rw [hv] at h2 ⊢
  calc u * d = u * (v * (gcdI n d : Int)) := by rw [h2]
    _ = u * (gcdI n d : Int) * v := by rw [Int.mul_comm v, Int.mul_assoc]
    _ = n * v := by rw [h1]
/-- Reduced fractions that are one number are the same. -/
theorem red_eq {a b : Fr} (ha : Red a) (hb : Red b) (h : SameF a b) : a = b := by
  obtain ⟨a1, a2⟩ := ha
  obtain ⟨b1, b2⟩ := hb
  have hn : a.1.natAbs * b.2.natAbs = b.1.natAbs * a.2.natAbs := by
    rw [← Int.natAbs_mul, ← Int.natAbs_mul, h]
  have d1 : a.2.natAbs ∣ b.2.natAbs := by
    have : a.2.natAbs ∣ a.1.natAbs * b.2.natAbs := by rw [hn]; exact Nat.dvd_mul_left _ _
    exact Nat.Coprime.dvd_of_dvd_mul_left (Nat.Coprime.symm a2) this
  have d2 : b.2.natAbs ∣ a.2.natAbs := by
    have : b.2.natAbs ∣ b.1.natAbs * a.2.natAbs := by rw [← hn]; exact Nat.dvd_mul_left _ _
    exact Nat.Coprime.dvd_of_dvd_mul_left (Nat.Coprime.symm b2) this
  have e : a.2 = b.2 := by have := Nat.dvd_antisymm d1 d2; omega
  unfold SameF at h
  rw [e] at h
  exact Prod.ext (Int.eq_of_mul_eq_mul_right (by omega) h) e
theorem SameF.symm {a b : Fr} (h : SameF a b) : SameF b a := by unfold SameF at *; rw [h]
theorem SameF.trans {a b c : Fr} (hb : b.2 ≠ 0) (h : SameF a b) (k : SameF b c) : SameF a c := by
  unfold SameF at *
  apply Int.eq_of_mul_eq_mul_right hb
  calc a.1 * c.2 * b.2 = (a.1 * b.2) * c.2 := by rw [Int.mul_assoc, Int.mul_comm c.2, ← Int.mul_assoc]
    _ = (b.1 * c.2) * a.2 := by rw [h, Int.mul_assoc, Int.mul_comm a.2, ← Int.mul_assoc]
    _ = c.1 * a.2 * b.2 := by rw [k, Int.mul_assoc, Int.mul_comm b.2, ← Int.mul_assoc]
/-- The sum, the product: not reduced. -/
def sumF (a b : Fr) : Fr := (a.1 * b.2 + b.1 * a.2, a.2 * b.2)
def proF (a b : Fr) : Fr := (a.1 * b.1, a.2 * b.2)
theorem sumF_comm (a b : Fr) : sumF a b = sumF b a := by
  unfold sumF
  rw [Int.add_comm, Int.mul_comm a.2]
theorem proF_comm (a b : Fr) : proF a b = proF b a := by
  unfold proF
  rw [Int.mul_comm a.1, Int.mul_comm a.2]

/-- The order. -/
def lessF (a b : Fr) : Bool := decide (a.1 * b.2 < b.1 * a.2)
theorem less_one {a b : Fr} (ha : Red a) (hb : Red b) : ¬ (lessF a b = true ∧ lessF b a = true) ∧ (a = b ↔ lessF a b = false ∧ lessF b a = false) := by
  simp only [lessF, decide_eq_true_eq, decide_eq_false_iff_not]
  refine ⟨fun ⟨h1, h2⟩ => by omega, fun h => by subst h; exact ⟨by omega, by omega⟩, fun ⟨h1, h2⟩ => red_eq ha hb (by unfold SameF; omega)⟩
theorem sumF_pos {a b : Fr} (ha : 0 < a.2) (hb : 0 < b.2) : 0 < (sumF a b).2 := Int.mul_pos ha hb
theorem proF_pos {a b : Fr} (ha : 0 < a.2) (hb : 0 < b.2) : 0 < (proF a b).2 := Int.mul_pos ha hb
/-- Sums and products of one number are one number. -/
theorem sumF_same {a b c : Fr} (h : SameF a b) : SameF (sumF a c) (sumF b c) := by
  unfold SameF sumF at *
  grind
theorem proF_same {a b c : Fr} (h : SameF a b) : SameF (proF a c) (proF b c) := by
  unfold SameF proF at *
  grind
/-- A sum less one of its parts is the other. -/
theorem sum_back (a b : Fr) : SameF (sumF (sumF a b) (0 - a.1, a.2)) (b.1 * a.2 * a.2, b.2 * a.2 * a.2) := by
  unfold SameF sumF
  grind
theorem scale_same (b : Fr) (k : Int) : SameF (b.1 * k, b.2 * k) b := by
  unfold SameF
  grind
/-- Products of sums are sums of products. -/
theorem over_same (a b k : Fr) : SameF (proF (sumF a b) k) (sumF (proF a k) (proF b k)) := by
  unfold SameF proF sumF
  grind
/-- A sum with a greater fraction is greater. -/
theorem less_sum {a b k : Fr} (hk : 0 < k.2) (h : lessF a b = true) : lessF (sumF a k) (sumF b k) = true := by
  simp only [lessF, sumF, decide_eq_true_eq] at *
  have h1 : 0 < k.2 * k.2 := Int.mul_pos hk hk
  have h2 : a.1 * b.2 * (k.2 * k.2) < b.1 * a.2 * (k.2 * k.2) := Int.mul_lt_mul_of_pos_right h h1
  grind
/-- The order hangs on the numbers alone. -/
theorem less_same_imp {a b c : Fr} (ha : 0 < a.2) (hb : 0 < b.2) (h : SameF a b) (g : a.1 * c.2 < c.1 * a.2) : b.1 * c.2 < c.1 * b.2 := by
  unfold SameF at h
  have h2 : a.1 * c.2 * b.2 < c.1 * a.2 * b.2 := Int.mul_lt_mul_of_pos_right g hb
  have e1 : a.1 * c.2 * b.2 = b.1 * c.2 * a.2 := by
    rw [Int.mul_right_comm a.1, h]
    simp only [Int.mul_comm, Int.mul_left_comm]
  have e2 : c.1 * a.2 * b.2 = c.1 * b.2 * a.2 := Int.mul_right_comm _ _ _
  rw [e1, e2] at h2
  exact Int.lt_of_mul_lt_mul_right h2 (Int.le_of_lt ha)

theorem less_same_imp' {a b c : Fr} (ha : 0 < a.2) (hb : 0 < b.2) (h : SameF a b) (g : c.1 * a.2 < a.1 * c.2) : c.1 * b.2 < b.1 * c.2 := by
  unfold SameF at h
  have h2 : c.1 * a.2 * b.2 < a.1 * c.2 * b.2 := Int.mul_lt_mul_of_pos_right g hb
  have e1 : a.1 * c.2 * b.2 = b.1 * c.2 * a.2 := by
    rw [Int.mul_right_comm a.1, h]
    simp only [Int.mul_comm, Int.mul_left_comm]
  have e2 : c.1 * a.2 * b.2 = c.1 * b.2 * a.2 := Int.mul_right_comm _ _ _
  rw [e1, e2] at h2
  exact Int.lt_of_mul_lt_mul_right h2 (Int.le_of_lt ha)

theorem same_symm {a b : Fr} (h : SameF a b) : SameF b a := by
  unfold SameF at h ⊢
  rw [h]

theorem less_same {a b c : Fr} (ha : 0 < a.2) (hb : 0 < b.2) (h : SameF a b) : lessF a c = lessF b c ∧ lessF c a = lessF c b := by
  simp only [lessF, decide_eq_decide]
  exact ⟨⟨less_same_imp ha hb h, less_same_imp hb ha (same_symm h)⟩, ⟨less_same_imp' ha hb h, less_same_imp' hb ha (same_symm h)⟩⟩

end Go.Proofs.YtoancpdiilofmaaDoor
