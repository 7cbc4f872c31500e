/-
  spec.l5Gcd, FracValid, l5Of, FracOf, FracAdd, FracTimes and FracLess: what they answer at every fraction; they write into no memory that was there.
-/
import Derived.Test.YtoancpdiilofmaaDoorFracQ
import Derived.Test.YtoancpdiilofmaaDoorQB
import Derived.Handy
namespace Go.Proofs.YtoancpdiilofmaaDoor
open Go.RowKit

theorem max_neg (n : Int) : (if n < -n then -n else n) = (n.natAbs : Int) := by split <;> omega
/-- A fraction as a value. -/
def frV (f : Fr) : Value := .agg #[.int .i64 f.1, .int .i64 f.2]

set_option maxHeartbeats 1000000 in
/-- **l5Gcd**. -/
theorem gcd_any (a b : Nat) (w : World) (ha : a ≤ 999999999999999) (hb : b ≤ 999999999999999) :
    Calls Tryd.prog 23 #[.int .i64 (a : Int), .int .i64 (b : Int)] w fun e w' => e = .returned (.int .i64 ((Nat.gcd a b : Nat) : Int)) ∧ w = w' := by
  go_enter Tryd.func23, Tryd.ntmps23
  go_wp2
  go_loop [0, 1, 5] (fun av bv rv => ∃ x y : Nat, av = .int .i64 (x : Int) ∧ bv = .int .i64 (y : Int) ∧ x ≤ 999999999999999 ∧ y ≤ 999999999999999 ∧ Hid (Nat.gcd x y = Nat.gcd a b)) (fun _ bv _ => (intOf bv).toNat)
  case atStart => exact ⟨a, b, rfl, rfl, ha, hb, rfl⟩
  case round =>
    obtain ⟨x, y, rfl, rfl, hx, hy, hg⟩ := hrel
    by_cases h0 : 0 < y
    · have hgt : decide (0 < (y : Int)) = true := decide_eq_true (by omega)
      have hyz : ((y : Int) == 0) = false := beq_eq_false_iff_ne.2 (by omega)
      obtain ⟨r, hr⟩ : ∃ r, x % y = r := ⟨_, rfl⟩
      have hry : r < y := by rw [← hr]; exact Nat.mod_lt _ h0
      have hri : ((x : Int) % (y : Int)) = (r : Int) := by rw [← hr]; exact (Int.natCast_emod x y).symm
      have HG : Hid (Nat.gcd y r = Nat.gcd a b) := by unfold Hid; rw [← hr, gcd_step, hg.out]
      clear hr
      go_wp2
      go_round
      case rel => exact ⟨y, r, rfl, by first | rfl | rw [hri], hy, by omega, HG⟩
      case measure => simp [intOf]; omega
    · obtain rfl : y = 0 := by omega
      have hgt : decide (0 < ((0 : Nat) : Int)) = false := by decide
      have HX : Hid (x = Nat.gcd a b) := by unfold Hid; rw [← hg.out, Nat.gcd_zero_right]
      go_wp2
      go_ret
      exact ⟨ret_int (by rw [← HX.out]), rfl⟩
theorem gcd_as (a b : Nat) (x y : Int) (v : Int) (w : World) (hx : (a : Int) = x) (hy : (b : Int) = y) (ha : a ≤ 999999999999999) (hb : b ≤ 999999999999999) (hv : ((Nat.gcd a b : Nat) : Int) = v) :
    Calls Tryd.prog 23 #[.int .i64 x, .int .i64 y] w fun e w' => e = .returned (.int .i64 v) ∧ w = w' := by
  subst hx; subst hy; subst hv; exact gcd_any a b w ha hb

set_option maxRecDepth 100000 in
set_option maxHeartbeats 2000000 in
/-- **spec.FracValid**. -/
theorem specFrac_any (x y : Int) (w : World) :
    Calls Tryd.prog 14 #[.agg #[.int .i64 x, .int .i64 y]] w fun e w' => e = .returned (.bool (fracB (x, y))) ∧ Below w.heap.size w w' := by
  have hB : Below w.heap.size w (w.alloc (.cells #[.int .i64 x, .int .i64 y] 24)) := (Below.refl _ w).alloc (Nat.le_refl _) _
  have HP : Hid (fracB (x, y) = (inB x (-9999999) 9999999 && (inB y 1 9999999 && decide (gcdI x y = 1)))) := rfl
  cases h1 : inB x (-9999999) 9999999
  · have H1 := Lib.hid h1
    go_enter Tryd.func14, Tryd.ntmps14
    go_wp2_with fail
    refine (l6In_any _ _ _ _).mono ?_
    rintro e w1 ⟨he, rfl⟩
    rw [H1.out] at he
    subst he
    go_wp2
    go_ret
    exact ⟨ret_bool (by rw [HP.out, H1.out]; rfl), hB⟩
  · have H1 := Lib.hid h1
    cases h2 : inB y 1 9999999
    · have H2 := Lib.hid h2
      go_enter Tryd.func14, Tryd.ntmps14
      go_wp2_with fail
      refine (l6In_any _ _ _ _).mono ?_
      rintro e w1 ⟨he, rfl⟩
      rw [H1.out] at he
      subst he
      go_wp2_with fail
      refine (l6In_any _ _ _ _).mono ?_
      rintro e w1 ⟨he, rfl⟩
      rw [H2.out] at he
      subst he
      go_wp2
      go_ret
      exact ⟨ret_bool (by rw [HP.out, H1.out, H2.out]; rfl), hB⟩
    · have H2 := Lib.hid h2
      have hx : -9999999 ≤ x ∧ x ≤ 9999999 := by simpa [inB] using h1
      have hy : 1 ≤ y ∧ y ≤ 9999999 := by simpa [inB] using h2
      have hw0 : IntKind.i64.wrap (0 - x) = 0 - x := IntWalk.i64_in _ (by omega)
      have hmx := max_neg x
      obtain ⟨v, hv⟩ : ∃ v, gcdI x y = v := ⟨_, rfl⟩
      obtain ⟨b, hb⟩ : ∃ b, decide (gcdI x y = 1) = b := ⟨_, rfl⟩
      have hve : ((v : Int) == 1) = b := by rw [← hb, hv, Bool.eq_iff_iff]; simp; omega
      have HB2 := Lib.hid hb
      have HV := Lib.hid hv
      clear hb hv h1 h2
      go_enter Tryd.func14, Tryd.ntmps14
      go_wp2_with fail
      refine (l6In_any _ _ _ _).mono ?_
      rintro e w1 ⟨he, rfl⟩
      rw [H1.out] at he
      subst he
      go_wp2_with fail
      refine (l6In_any _ _ _ _).mono ?_
      rintro e w1 ⟨he, rfl⟩
      rw [H2.out] at he
      subst he
      go_wp2_with fail
      refine (gcd_as x.natAbs y.natAbs _ _ (v : Int) _ (by first | rfl | omega | (rw [hmx])) (by omega) (by omega) (by omega) (by rw [← HV.out]; rfl)).mono ?_
      rintro e w1 ⟨rfl, rfl⟩
      go_wp2
      go_ret
      exact ⟨ret_bool (by rw [HP.out, H1.out, H2.out, HB2.out]; rfl), hB⟩
theorem specFrac_as (x y : Int) (v : Bool) (w : World) (hv : fracB (x, y) = v) :
    Calls Tryd.prog 14 #[.agg #[.int .i64 x, .int .i64 y]] w fun e w' => e = .returned (.bool v) ∧ Below w.heap.size w w' := by
  subst hv; exact specFrac_any x y w

set_option maxRecDepth 100000 in
set_option maxHeartbeats 2000000 in
/-- **l5Of**. -/
theorem l5Of_any (n d : Int) (w : World) (hn : -999999999999999 ≤ n ∧ n ≤ 999999999999999) (hd : 1 ≤ d ∧ d ≤ 999999999999999) :
    Calls Tryd.prog 17 #[.int .i64 n, .int .i64 d] w fun e w' => e = .returned (frV (ofF n d)) ∧ Below w.heap.size w w' := by
  have hg := gcdI_pos (n := n) (d := d) (by omega)
  obtain ⟨g, hge⟩ : ∃ g, gcdI n d = g := ⟨_, rfl⟩
  have HGE := Lib.hid hge
  have hdn : (g : Int) ∣ n := by rw [← hge]; exact gcdI_dvd_left n d
  have hdd : (g : Int) ∣ d := by rw [← hge]; exact gcdI_dvd_right n d
  rw [hge] at hg
  have hgz : ((g : Int) == 0) = false := beq_eq_false_iff_ne.2 (by omega)
  obtain ⟨u, hu⟩ : ∃ u, (ofF n d).1 = u := ⟨_, rfl⟩
  obtain ⟨v, hv⟩ : ∃ v, (ofF n d).2 = v := ⟨_, rfl⟩
  have HOF : Hid (ofF n d = (u, v)) := by unfold Hid; rw [← hu, ← hv]
  have q1 : n / (g : Int) = u := by rw [← hu, ← hge]; rfl
  have q2 : d / (g : Int) = v := by rw [← hv, ← hge]; rfl
  have t1 : n.tdiv (g : Int) = u := by rw [← q1]; exact Int.tdiv_eq_ediv_of_dvd hdn
  have t2 : d.tdiv (g : Int) = v := by rw [← q2]; exact Int.tdiv_eq_ediv_of_dvd hdd
  have hw0 : IntKind.i64.wrap (0 - n) = 0 - n := IntWalk.i64_in _ (by omega)
  have hb := ofF_bound (n := n) (d := d) (by omega)
  rw [hu, hv] at hb
  have hwu : IntKind.i64.wrap u = u := IntWalk.i64_in _ (by omega)
  have hmx := max_neg n
  clear hdn hdd hge hu hv
  go_enter Tryd.func17, Tryd.ntmps17
  go_wp2_with fail
  refine (gcd_as n.natAbs d.natAbs _ _ (g : Int) _ (by first | rfl | omega | (rw [hmx])) (by omega) (by omega) (by omega) (by rw [← HGE.out]; rfl)).mono ?_
  rintro e w1 ⟨rfl, rfl⟩
  go_wp2_with fail
  go_region
  all_goals (go_wp2; go_returns; exact ⟨by rw [HOF.out]; rfl, by go_grown⟩)
theorem l5Of_as (n d x y : Int) (w : World) (hn : -999999999999999 ≤ n ∧ n ≤ 999999999999999) (hd : 1 ≤ d ∧ d ≤ 999999999999999) (hf : ofF n d = (x, y)) :
    Calls Tryd.prog 17 #[.int .i64 n, .int .i64 d] w fun e w' => e = .returned (.agg #[.int .i64 x, .int .i64 y]) ∧ Below w.heap.size w w' := by
  have h := l5Of_any n d w hn hd
  rw [hf] at h
  exact h

/-- What is told of a fraction that is returned with a bool. -/
def ToldF (w : World) (x y : Int) (ok : Bool) (e : Ending) (w' : World) : Prop := e = .returned (.tuple #[.agg #[.int .i64 x, .int .i64 y], .bool ok]) ∧ Below w.heap.size w w'
theorem told_f {w w' : World} {x y x' y' : Int} {ok ok' : Bool} (hx : x = x') (hy : y = y') (ho : ok = ok') (hb : Below w.heap.size w w') : ToldF w x' y' ok' (.returned (.tuple #[.agg #[.int .i64 x, .int .i64 y], .bool ok])) w' := by
  subst hx; subst hy; subst ho; exact ⟨rfl, hb⟩


end Go.Proofs.YtoancpdiilofmaaDoor
