/-
  impl.commonDivisor, partsInRange, the methods parts and valid of a fraction, and impl.FracValid: what they answer; they write into no memory that was there.
-/
import Derived.Test.YtoancpdiilofmaaDoorFracS
import Derived.Test.YtoancpdiilofmaaDoorTwo
namespace Go.Proofs.YtoancpdiilofmaaDoor
open Go.RowKit

theorem gcdI_step (x y : Int) : gcdI y (x.tmod y) = gcdI x y := by
  unfold gcdI
  rw [Int.natAbs_tmod]
  exact gcd_step x.natAbs y.natAbs
theorem gcdI_zero (x : Int) : gcdI x 0 = x.natAbs := by unfold gcdI; simp

set_option maxRecDepth 100000 in
set_option maxHeartbeats 2000000 in
/-- **commonDivisor**. -/
theorem common_any (a b : Int) (w : World) (ha : -999999999999999 ≤ a ∧ a ≤ 999999999999999) (hb : -999999999999999 ≤ b ∧ b ≤ 999999999999999) :
    Calls Tryd.prog 20 #[.int .i64 a, .int .i64 b] w fun e w' => e = .returned (.int .i64 ((gcdI a b : Nat) : Int)) ∧ Dr w w' := by
  go_enter Tryd.func20, Tryd.ntmps20
  go_wp2
  go_loopw [0, 1] (fun av bv wr => ∃ x y : Int, av = .int .i64 x ∧ bv = .int .i64 y ∧ (-999999999999999 ≤ x ∧ x ≤ 999999999999999) ∧ (-999999999999999 ≤ y ∧ y ≤ 999999999999999) ∧ Hid (gcdI x y = gcdI a b) ∧ Dr w wr) (fun _ bv _ => (intOf bv).natAbs)
  case atStart => exact ⟨a, b, rfl, rfl, ha, hb, rfl, Dr.refl _⟩
  case round =>
    obtain ⟨x, y, rfl, rfl, hx, hy, hg, hd⟩ := hrel
    by_cases h0 : y = 0
    · subst h0
      have hne : ((0 : Int) != 0) = false := rfl
      have HX : Hid ((x.natAbs : Int) = ((gcdI a b : Nat) : Int)) := by unfold Hid; rw [← hg.out, gcdI_zero]
      have hwn : IntKind.i64.wrap (-x) = -x := IntWalk.i64_in _ (by omega)
      have hmx := max_neg x
      go_wp2
      go_ret
      exact ⟨ret_int HX.out, hd⟩
    · have hne : (y != 0) = true := by simpa using h0
      have hyz : (y == 0) = false := by simpa using h0
      have hm : (x.tmod y).natAbs < y.natAbs := by rw [Int.natAbs_tmod]; exact Nat.mod_lt _ (by omega)
      have HG : Hid (gcdI y (x.tmod y) = gcdI a b) := by unfold Hid; rw [gcdI_step, hg.out]
      obtain ⟨r, hr⟩ : ∃ r, x.tmod y = r := ⟨_, rfl⟩
      rw [hr] at hm HG
      have hwr : IntKind.i64.wrap r = r := IntWalk.i64_in _ (by omega)
      go_wp2
      go_quiet (fail)
      go_wp2
      go_roundw
      case rel => exact ⟨y, r, rfl, by first | rfl | rw [hr], hy, by omega, HG, hd.drewN _⟩
      case measure => simp [intOf]; omega
theorem common_as (a b : Int) (g : Nat) (w : World) (ha : -999999999999999 ≤ a ∧ a ≤ 999999999999999) (hb : -999999999999999 ≤ b ∧ b ≤ 999999999999999) (hg : gcdI a b = g) :
    Calls Tryd.prog 20 #[.int .i64 a, .int .i64 b] w fun e w' => e = .returned (.int .i64 (g : Int)) ∧ Dr w w' := by
  subst hg; exact common_any a b w ha hb

/-- The parts of a fraction are in range. -/
def rangeB (n d : Int) : Bool := inB n (-9999999) 9999999 && inB d 1 9999999

set_option maxRecDepth 100000 in
set_option maxHeartbeats 2000000 in
/-- **partsInRange**. -/
theorem range_as (n d : Int) (v : Bool) (w : World) (hv : rangeB n d = v) :
    Calls Tryd.prog 19 #[.int .i64 n, .int .i64 d] w fun e w' => e = .returned (.bool v) ∧ w = w' := by
  subst hv
  by_cases h1 : -9999999 ≤ n
  · by_cases h2 : n ≤ 9999999
    · by_cases h3 : 1 ≤ d
      · by_cases h4 : d ≤ 9999999
        · have e : rangeB n d = true := by simp [rangeB, inB]; omega
          rw [e]; clear e
          go_enter Tryd.func19, Tryd.ntmps19
          go_wp2
          go_ret
          exact ⟨rfl, rfl⟩
        · have e : rangeB n d = false := by simp [rangeB, inB]; omega
          rw [e]; clear e
          go_enter Tryd.func19, Tryd.ntmps19
          go_wp2
          go_ret
          exact ⟨rfl, rfl⟩
      · have e : rangeB n d = false := by simp [rangeB, inB]; omega
        rw [e]; clear e
        go_enter Tryd.func19, Tryd.ntmps19
        go_wp2
        go_ret
        exact ⟨rfl, rfl⟩
    · have e : rangeB n d = false := by simp [rangeB, inB]; omega
      rw [e]; clear e
      go_enter Tryd.func19, Tryd.ntmps19
      go_wp2
      go_ret
      exact ⟨rfl, rfl⟩
  · have e : rangeB n d = false := by simp [rangeB, inB]; omega
    rw [e]; clear e
    go_enter Tryd.func19, Tryd.ntmps19
    go_wp2
    go_ret
    exact ⟨rfl, rfl⟩

set_option maxRecDepth 100000 in
set_option maxHeartbeats 2000000 in
/-- **(Frac).parts**. -/
theorem parts_any (x y : Int) (w : World) :
    Calls Tryd.prog 18 #[.agg #[.int .i64 x, .int .i64 y]] w fun e w' => e = .returned (.tuple #[.int .i64 x, .int .i64 y]) ∧ Below w.heap.size w w' := by
  have T0 := Two.new w x y 24
  obtain ⟨la, a0, a9, -, -⟩ := T0
  have B0 := Lib.hid ((Below.refl _ w).alloc (Nat.le_refl _) (.cells #[.int .i64 x, .int .i64 y] 24))
  go_enter Tryd.func18, Tryd.ntmps18
  go_wp2
  go_quiet (fail)
  go_wp2
  go_ret2
  exact ⟨rfl, B0.out.trans (below_drewN _ _ _)⟩

set_option maxRecDepth 100000 in
set_option maxHeartbeats 2000000 in
/-- **(Frac).valid**. -/
theorem valid_as (x y : Int) (v : Bool) (w : World) (hv : fracB (x, y) = v) :
    Calls Tryd.prog 12 #[.agg #[.int .i64 x, .int .i64 y]] w fun e w' => e = .returned (.bool v) ∧ Below w.heap.size w w' := by
  obtain ⟨la, a0, a9, -, -⟩ := Two.new w x y 24
  have B0 := Lib.hid ((Below.refl _ w).alloc (Nat.le_refl _) (.cells #[.int .i64 x, .int .i64 y] 24))
  have HP : Hid (fracB (x, y) = (rangeB x y && decide (gcdI x y = 1))) := by unfold Hid fracB rangeB; rw [Bool.and_assoc]
  subst hv
  cases h1 : rangeB x y
  · have H1 := Lib.hid h1
    clear h1
    go_enter Tryd.func12, Tryd.ntmps12
    go_wp2_with fail
    refine (parts_any x y _).mono ?_
    rintro e w1 ⟨rfl, hb⟩
    have B1 := Lib.hid (below_on B0.out hb)
    clear hb
    go_wp2_with fail
    refine (range_as x y false _ H1.out).mono ?_
    rintro e w2 ⟨rfl, rfl⟩
    go_wp2
    go_ret
    exact ⟨ret_bool (by rw [HP.out, H1.out]; rfl), B1.out⟩
  · have hr : (-9999999 ≤ x ∧ x ≤ 9999999) ∧ 1 ≤ y ∧ y ≤ 9999999 := by simpa [rangeB, inB] using h1
    have H1 := Lib.hid h1
    obtain ⟨g, hg⟩ : ∃ g, gcdI x y = g := ⟨_, rfl⟩
    obtain ⟨b, hb⟩ : ∃ b, decide (gcdI x y = 1) = b := ⟨_, rfl⟩
    have hve : ((g : Int) == 1) = b := by rw [← hb, hg, Bool.eq_iff_iff]; simp; omega
    have HB := Lib.hid hb
    have HG := Lib.hid hg
    clear h1 hb hg
    go_enter Tryd.func12, Tryd.ntmps12
    go_wp2_with fail
    refine (parts_any x y _).mono ?_
    rintro e w1 ⟨rfl, hb⟩
    have B1 := Lib.hid (below_on B0.out hb)
    clear hb
    go_wp2_with fail
    refine (range_as x y true _ H1.out).mono ?_
    rintro e w2 ⟨rfl, rfl⟩
    go_wp2_with fail
    refine (common_as x y g _ (by omega) (by omega) HG.out).mono ?_
    rintro e w3 ⟨rfl, hd⟩
    go_wp2
    go_ret
    exact ⟨ret_bool (by rw [HP.out, H1.out, HB.out]; rfl), below_on B1.out (hd.below _)⟩

set_option maxRecDepth 100000 in
set_option maxHeartbeats 2000000 in
/-- **impl.FracValid**. -/
theorem implFrac_as (x y : Int) (v : Bool) (w : World) (hv : fracB (x, y) = v) :
    Calls Tryd.prog 8 #[.agg #[.int .i64 x, .int .i64 y]] w fun e w' => e = .returned (.bool v) ∧ Below w.heap.size w w' := by
  obtain ⟨la, a0, a9, -, -⟩ := Two.new w x y 24
  have B0 := Lib.hid ((Below.refl _ w).alloc (Nat.le_refl _) (.cells #[.int .i64 x, .int .i64 y] 24))
  have HV := Lib.hid hv
  clear hv
  go_enter Tryd.func8, Tryd.ntmps8
  go_wp2_with fail
  refine (valid_as x y v _ HV.out).mono ?_
  rintro e w1 ⟨rfl, hb⟩
  have B1 := Lib.hid (below_on B0.out hb)
  clear hb
  go_wp2
  go_ret
  exact ⟨rfl, B1.out⟩

end Go.Proofs.YtoancpdiilofmaaDoor
