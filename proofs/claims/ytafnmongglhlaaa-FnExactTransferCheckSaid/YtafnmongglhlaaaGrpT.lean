/-
  Blocks of two ints that a function lays itself, behind calls. Of no function.
  spec.l5Gcd, FracValid, l5Of, FracOf, FracAdd, FracTimes and FracLess: what they answer at every fraction; they write into no memory that was there.
  impl.commonDivisor, partsInRange, the methods parts and valid of a fraction, and impl.FracValid: what they answer; they write into no memory that was there.
  impl.reduced, the methods plus, times and less of a fraction, impl.FracOf, FracAdd, FracTimes and FracLess: what they answer; they write into no memory that was there.
-/
import Derived.Test.YtafnmongglhlaaaGrp4
import Derived.Handy
import Derived.Test.YtafnmongglhlaaaGrp11
namespace Go.Proofs.Ytafnmongglhlaaa
open Go.RowKit

theorem lt_alloc (w : World) (o : Obj) : w.heap.size < (w.alloc o).heap.size := by simp
theorem le_alloc (w : World) (o : Obj) : w.heap.size ≤ (w.alloc o).heap.size := by simp
/-- Block g holds two ints. -/
structure Two (w : World) (g : Nat) (x y : Int) : Prop where
  lt : g < w.heap.size
  c0 : w.cell? ⟨g, 0, none⟩ = some (.int .i64 x)
  c1 : w.cell? ⟨g, 1, none⟩ = some (.int .i64 y)
  f0 : w.frozen? ⟨g, 0, none⟩ = false
  f1 : w.frozen? ⟨g, 1, none⟩ = false
theorem Two.new (w : World) (x y : Int) (t : TypeId) : Two (w.alloc (.cells #[.int .i64 x, .int .i64 y] t)) w.heap.size x y :=
  ⟨by simp, (World.cell?_alloc_mark w _ t (0, 0) 0).trans rfl, (World.cell?_alloc_mark w _ t (0, 0) 1).trans rfl, (World.frozen?_alloc_mark w _ t 0 0 0).trans rfl, (World.frozen?_alloc_mark w _ t 0 0 1).trans rfl⟩
theorem Two.at {w : World} {g g' : Nat} {x y : Int} (h : Two w g x y) (e : g = g') : Two w g' x y := by subst e; exact h
theorem Two.keep {w w' : World} {B g : Nat} {x y : Int} (h : Two w g x y) (hb : Below B w w') (hg : g < B) : Two w' g x y :=
  ⟨Nat.lt_of_lt_of_le h.lt hb.size, (hb.cell (p := ⟨g, 0, none⟩) hg).trans h.c0, (hb.cell (p := ⟨g, 1, none⟩) hg).trans h.c1, (hb.frozen (p := ⟨g, 0, none⟩) hg).trans h.f0, (hb.frozen (p := ⟨g, 1, none⟩) hg).trans h.f1⟩
theorem Two.below {w w' : World} {g : Nat} {x y : Int} (h : Two w g x y) (hb : Below w.heap.size w w') : Two w' g x y := h.keep hb h.lt
theorem Two.alloc {w : World} {g : Nat} {x y : Int} (h : Two w g x y) (o : Obj) : Two (w.alloc o) g x y := h.below ((Below.refl _ w).alloc (Nat.le_refl _) _)
/-- What a store of two ints leaves. -/
theorem Two.set0 {w : World} {g : Nat} {x y : Int} (h : Two w g x y) (v : Value) : (w.setCell ⟨g, 0, none⟩ v).cell? ⟨g, 0, none⟩ = some v :=
  World.cell?_setCell_same' _ _ _ (by rw [h.c0]; rfl)
theorem Two.set1 {w : World} {g : Nat} {x y : Int} (h : Two w g x y) (u v : Value) : ((w.setCell ⟨g, 0, none⟩ u).setCell ⟨g, 1, none⟩ v).cell? ⟨g, 1, none⟩ = some v :=
  World.cell?_setCell_same' _ _ _ (by rw [World.cell?_setCell_other _ _ _ _ (by intro e; injection e with _ e2; exact absurd e2 (by decide)), h.c1]; rfl)

/-- Two arguments that were boxed at g and g + 1, and a result's block at g + 2. -/
structure Tri (g : Nat) (a1 a2 b1 b2 : Int) (w : World) : Prop where
  a : Two w g a1 a2
  b : Two w (g + 1) b1 b2
  r : Two w (g + 2) 0 0
theorem Tri.new (w : World) (a1 a2 b1 b2 : Int) (t t' t'' : TypeId) : Tri w.heap.size a1 a2 b1 b2 (((w.alloc (.cells #[.int .i64 a1, .int .i64 a2] t)).alloc (.cells #[.int .i64 b1, .int .i64 b2] t')).alloc (.cells #[.int .i64 0, .int .i64 0] t'')) :=
  ⟨((Two.new w a1 a2 t).alloc _).alloc _, ((Two.new (w.alloc _) b1 b2 t').alloc _).at (by simp), (Two.new ((w.alloc _).alloc _) 0 0 t'').at (by simp)⟩
theorem Tri.below {g : Nat} {a1 a2 b1 b2 : Int} {w w' : World} (h : Tri g a1 a2 b1 b2 w) (hb : Below w.heap.size w w') : Tri g a1 a2 b1 b2 w' := ⟨h.a.below hb, h.b.below hb, h.r.below hb⟩
theorem Tri.alloc {g : Nat} {a1 a2 b1 b2 : Int} {w : World} (h : Tri g a1 a2 b1 b2 w) (o : Obj) : Tri g a1 a2 b1 b2 (w.alloc o) := ⟨h.a.alloc o, h.b.alloc o, h.r.alloc o⟩
/-- Two arguments that were boxed at g and g + 1. -/
structure Duo (g : Nat) (a1 a2 b1 b2 : Int) (w : World) : Prop where
  a : Two w g a1 a2
  b : Two w (g + 1) b1 b2
theorem Duo.new (w : World) (a1 a2 b1 b2 : Int) (t t' : TypeId) : Duo w.heap.size a1 a2 b1 b2 ((w.alloc (.cells #[.int .i64 a1, .int .i64 a2] t)).alloc (.cells #[.int .i64 b1, .int .i64 b2] t')) :=
  ⟨(Two.new w a1 a2 t).alloc _, (Two.new (w.alloc _) b1 b2 t').at (by simp)⟩
theorem Duo.below {g : Nat} {a1 a2 b1 b2 : Int} {w w' : World} (h : Duo g a1 a2 b1 b2 w) (hb : Below w.heap.size w w') : Duo g a1 a2 b1 b2 w' := ⟨h.a.below hb, h.b.below hb⟩

theorem two_allocs (w : World) (o o' : Obj) : Below w.heap.size w ((w.alloc o).alloc o') := (((Below.refl _ w).alloc (Nat.le_refl _) _).alloc (by simp) _)
theorem three_allocs (w : World) (o o' o'' : Obj) : Below w.heap.size w (((w.alloc o).alloc o').alloc o'') := ((((Below.refl _ w).alloc (Nat.le_refl _) _).alloc (by simp) _).alloc (by simp; omega) _)
theorem below_drew {B : Nat} {w w' : World} (h : Below B w.drew w') : Below B w w' := ⟨h.os, h.tape, h.output, h.size, h.block⟩
/-- One call more. -/
theorem below_on {w w1 w2 : World} (h : Below w.heap.size w w1) (k : Below w1.heap.size w1 w2) : Below w.heap.size w w2 := h.trans (k.mono h.size)
theorem below_set2 {w w1 : World} {g : Nat} (h : Below w.heap.size w w1) (hg : w.heap.size ≤ g) (u v : Value) : Below w.heap.size w ((w1.setCell ⟨g, 0, none⟩ u).setCell ⟨g, 1, none⟩ v) := (h.setCell hg u).setCell hg v
theorem below_more {w w1 : World} (h : Below w.heap.size w w1) (o : Obj) : Below w.heap.size w (w1.alloc o) := below_on h ((Below.refl _ w1).alloc (Nat.le_refl _) o)

end Go.Proofs.Ytafnmongglhlaaa

namespace Go.Proofs.Ytafnmongglhlaaa
open Go.RowKit

theorem max_neg (n : Int) : (if n < -n then -n else n) = (n.natAbs : Int) := by split <;> omega
/-- A fraction as a value. -/
def frV (f : Fr) : Value := .agg #[.int .i64 f.1, .int .i64 f.2]

set_option maxHeartbeats 1000000 in
/-- **l5Gcd**. -/
theorem gcd_any (a b : Nat) (w : World) (ha : a ≤ 999999999999999) (hb : b ≤ 999999999999999) :
    Calls Try.prog 123 #[.int .i64 (a : Int), .int .i64 (b : Int)] w fun e w' => e = .returned (.int .i64 ((Nat.gcd a b : Nat) : Int)) ∧ w = w' := by
  go_enter Try.func123, Try.ntmps123
  go_wp2
  go_loop [0, 1, 5] (fun av bv rv => ∃ x y : Nat, av = .int .i64 (x : Int) ∧ bv = .int .i64 (y : Int) ∧ x ≤ 999999999999999 ∧ y ≤ 999999999999999 ∧ Hid (Nat.gcd x y = Nat.gcd a b)) (fun _ bv _ => (intOf bv).toNat)
  case atStart => exact ⟨a, b, rfl, rfl, ha, hb, rfl⟩
  case round =>
    obtain ⟨x, y, rfl, rfl, hx, hy, hg⟩ := hrel
    by_cases h0 : 0 < y
    · have hgt : decide (0 < (y : Int)) = true := decide_eq_true (by omega)
      have hyz : ((y : Int) == 0) = false := beq_eq_false_iff_ne.2 (by omega)
      obtain ⟨r, hr⟩ : ∃ r, x % y = r := ⟨_, rfl⟩
      have hry : r < y := by rw [← hr]; exact Nat.mod_lt _ h0
      have hri : ((x : Int) % (y : Int)) = (r : Int) := by rw [← hr]; exact (Int.natCast_emod x y).symm
      have HG : Hid (Nat.gcd y r = Nat.gcd a b) := by unfold Hid; rw [← hr, gcd_step, hg.out]
      clear hr
      go_wp2
      go_round
      case rel => exact ⟨y, r, rfl, by first | rfl | rw [hri], hy, by omega, HG⟩
      case measure => simp [intOf]; omega
    · obtain rfl : y = 0 := by omega
      have hgt : decide (0 < ((0 : Nat) : Int)) = false := by decide
      have HX : Hid (x = Nat.gcd a b) := by unfold Hid; rw [← hg.out, Nat.gcd_zero_right]
      go_wp2
      go_ret
      exact ⟨ret_int (by rw [← HX.out]), rfl⟩
theorem gcd_as (a b : Nat) (x y : Int) (v : Int) (w : World) (hx : (a : Int) = x) (hy : (b : Int) = y) (ha : a ≤ 999999999999999) (hb : b ≤ 999999999999999) (hv : ((Nat.gcd a b : Nat) : Int) = v) :
    Calls Try.prog 123 #[.int .i64 x, .int .i64 y] w fun e w' => e = .returned (.int .i64 v) ∧ w = w' := by
  subst hx; subst hy; subst hv; exact gcd_any a b w ha hb

set_option maxRecDepth 100000 in
set_option maxHeartbeats 2000000 in
/-- **spec.FracValid**. -/
theorem specFrac_any (x y : Int) (w : World) :
    Calls Try.prog 120 #[.agg #[.int .i64 x, .int .i64 y]] w fun e w' => e = .returned (.bool (fracB (x, y))) ∧ Below w.heap.size w w' := by
  have hB : Below w.heap.size w (w.alloc (.cells #[.int .i64 x, .int .i64 y] 40)) := (Below.refl _ w).alloc (Nat.le_refl _) _
  have HP : Hid (fracB (x, y) = (inB x (-9999999) 9999999 && (inB y 1 9999999 && decide (gcdI x y = 1)))) := rfl
  cases h1 : inB x (-9999999) 9999999
  · have H1 := Lib.hid h1
    go_enter Try.func120, Try.ntmps120
    go_wp2_with fail
    refine (l6In_any _ _ _ _).mono ?_
    rintro e w1 ⟨he, rfl⟩
    rw [H1.out] at he
    subst he
    go_wp2
    go_ret
    exact ⟨ret_bool (by rw [HP.out, H1.out]; rfl), hB⟩
  · have H1 := Lib.hid h1
    cases h2 : inB y 1 9999999
    · have H2 := Lib.hid h2
      go_enter Try.func120, Try.ntmps120
      go_wp2_with fail
      refine (l6In_any _ _ _ _).mono ?_
      rintro e w1 ⟨he, rfl⟩
      rw [H1.out] at he
      subst he
      go_wp2_with fail
      refine (l6In_any _ _ _ _).mono ?_
      rintro e w1 ⟨he, rfl⟩
      rw [H2.out] at he
      subst he
      go_wp2
      go_ret
      exact ⟨ret_bool (by rw [HP.out, H1.out, H2.out]; rfl), hB⟩
    · have H2 := Lib.hid h2
      have hx : -9999999 ≤ x ∧ x ≤ 9999999 := by simpa [inB] using h1
      have hy : 1 ≤ y ∧ y ≤ 9999999 := by simpa [inB] using h2
      have hw0 : IntKind.i64.wrap (0 - x) = 0 - x := IntWalk.i64_in _ (by omega)
      have hmx := max_neg x
      obtain ⟨v, hv⟩ : ∃ v, gcdI x y = v := ⟨_, rfl⟩
      obtain ⟨b, hb⟩ : ∃ b, decide (gcdI x y = 1) = b := ⟨_, rfl⟩
      have hve : ((v : Int) == 1) = b := by rw [← hb, hv, Bool.eq_iff_iff]; simp; omega
      have HB2 := Lib.hid hb
      have HV := Lib.hid hv
      clear hb hv h1 h2
      go_enter Try.func120, Try.ntmps120
      go_wp2_with fail
      refine (l6In_any _ _ _ _).mono ?_
      rintro e w1 ⟨he, rfl⟩
      rw [H1.out] at he
      subst he
      go_wp2_with fail
      refine (l6In_any _ _ _ _).mono ?_
      rintro e w1 ⟨he, rfl⟩
      rw [H2.out] at he
      subst he
      go_wp2_with fail
      refine (gcd_as x.natAbs y.natAbs _ _ (v : Int) _ (by first | rfl | omega | (rw [hmx])) (by omega) (by omega) (by omega) (by rw [← HV.out]; rfl)).mono ?_
      rintro e w1 ⟨rfl, rfl⟩
      go_wp2
      go_ret
      exact ⟨ret_bool (by rw [HP.out, H1.out, H2.out, HB2.out]; rfl), hB⟩
theorem specFrac_as (x y : Int) (v : Bool) (w : World) (hv : fracB (x, y) = v) :
    Calls Try.prog 120 #[.agg #[.int .i64 x, .int .i64 y]] w fun e w' => e = .returned (.bool v) ∧ Below w.heap.size w w' := by
  subst hv; exact specFrac_any x y w

set_option maxRecDepth 100000 in
set_option maxHeartbeats 2000000 in
/-- **l5Of**. -/
theorem l5Of_any (n d : Int) (w : World) (hn : -999999999999999 ≤ n ∧ n ≤ 999999999999999) (hd : 1 ≤ d ∧ d ≤ 999999999999999) :
    Calls Try.prog 96 #[.int .i64 n, .int .i64 d] w fun e w' => e = .returned (frV (ofF n d)) ∧ Below w.heap.size w w' := by
  have hg := gcdI_pos (n := n) (d := d) (by omega)
  obtain ⟨g, hge⟩ : ∃ g, gcdI n d = g := ⟨_, rfl⟩
  have HGE := Lib.hid hge
  have hdn : (g : Int) ∣ n := by rw [← hge]; exact gcdI_dvd_left n d
  have hdd : (g : Int) ∣ d := by rw [← hge]; exact gcdI_dvd_right n d
  rw [hge] at hg
  have hgz : ((g : Int) == 0) = false := beq_eq_false_iff_ne.2 (by omega)
  obtain ⟨u, hu⟩ : ∃ u, (ofF n d).1 = u := ⟨_, rfl⟩
  obtain ⟨v, hv⟩ : ∃ v, (ofF n d).2 = v := ⟨_, rfl⟩
  have HOF : Hid (ofF n d = (u, v)) := by unfold Hid; rw [← hu, ← hv]
  have q1 : n / (g : Int) = u := by rw [← hu, ← hge]; rfl
  have q2 : d / (g : Int) = v := by rw [← hv, ← hge]; rfl
  have t1 : n.tdiv (g : Int) = u := by rw [← q1]; exact Int.tdiv_eq_ediv_of_dvd hdn
  have t2 : d.tdiv (g : Int) = v := by rw [← q2]; exact Int.tdiv_eq_ediv_of_dvd hdd
  have hw0 : IntKind.i64.wrap (0 - n) = 0 - n := IntWalk.i64_in _ (by omega)
  have hb := ofF_bound (n := n) (d := d) (by omega)
  rw [hu, hv] at hb
  have hwu : IntKind.i64.wrap u = u := IntWalk.i64_in _ (by omega)
  have hmx := max_neg n
  clear hdn hdd hge hu hv
  go_enter Try.func96, Try.ntmps96
  go_wp2_with fail
  refine (gcd_as n.natAbs d.natAbs _ _ (g : Int) _ (by first | rfl | omega | (rw [hmx])) (by omega) (by omega) (by omega) (by rw [← HGE.out]; rfl)).mono ?_
  rintro e w1 ⟨rfl, rfl⟩
  go_wp2_with fail
  go_region
  all_goals (go_wp2; go_returns; exact ⟨by rw [HOF.out]; rfl, by go_grown⟩)
theorem l5Of_as (n d x y : Int) (w : World) (hn : -999999999999999 ≤ n ∧ n ≤ 999999999999999) (hd : 1 ≤ d ∧ d ≤ 999999999999999) (hf : ofF n d = (x, y)) :
    Calls Try.prog 96 #[.int .i64 n, .int .i64 d] w fun e w' => e = .returned (.agg #[.int .i64 x, .int .i64 y]) ∧ Below w.heap.size w w' := by
  have h := l5Of_any n d w hn hd
  rw [hf] at h
  exact h

/-- What is told of a fraction that is returned with a bool. -/
def ToldF (w : World) (x y : Int) (ok : Bool) (e : Ending) (w' : World) : Prop := e = .returned (.tuple #[.agg #[.int .i64 x, .int .i64 y], .bool ok]) ∧ Below w.heap.size w w'
theorem told_f {w w' : World} {x y x' y' : Int} {ok ok' : Bool} (hx : x = x') (hy : y = y') (ho : ok = ok') (hb : Below w.heap.size w w') : ToldF w x' y' ok' (.returned (.tuple #[.agg #[.int .i64 x, .int .i64 y], .bool ok])) w' := by
  subst hx; subst hy; subst ho; exact ⟨rfl, hb⟩


end Go.Proofs.Ytafnmongglhlaaa

namespace Go.Proofs.Ytafnmongglhlaaa
open Go.RowKit

theorem gcdI_step (x y : Int) : gcdI y (x.tmod y) = gcdI x y := by
  unfold gcdI
  rw [Int.natAbs_tmod]
  exact gcd_step x.natAbs y.natAbs
theorem gcdI_zero (x : Int) : gcdI x 0 = x.natAbs := by unfold gcdI; simp

set_option maxRecDepth 100000 in
set_option maxHeartbeats 2000000 in
/-- **commonDivisor**. -/
theorem common_any (a b : Int) (w : World) (ha : -999999999999999 ≤ a ∧ a ≤ 999999999999999) (hb : -999999999999999 ≤ b ∧ b ≤ 999999999999999) :
    Calls Try.prog 91 #[.int .i64 a, .int .i64 b] w fun e w' => e = .returned (.int .i64 ((gcdI a b : Nat) : Int)) ∧ Dr w w' := by
  go_enter Try.func91, Try.ntmps91
  go_wp2
  go_loopw [0, 1] (fun av bv wr => ∃ x y : Int, av = .int .i64 x ∧ bv = .int .i64 y ∧ (-999999999999999 ≤ x ∧ x ≤ 999999999999999) ∧ (-999999999999999 ≤ y ∧ y ≤ 999999999999999) ∧ Hid (gcdI x y = gcdI a b) ∧ Dr w wr) (fun _ bv _ => (intOf bv).natAbs)
  case atStart => exact ⟨a, b, rfl, rfl, ha, hb, rfl, Dr.refl _⟩
  case round =>
    obtain ⟨x, y, rfl, rfl, hx, hy, hg, hd⟩ := hrel
    by_cases h0 : y = 0
    · subst h0
      have hne : ((0 : Int) != 0) = false := rfl
      have HX : Hid ((x.natAbs : Int) = ((gcdI a b : Nat) : Int)) := by unfold Hid; rw [← hg.out, gcdI_zero]
      have hwn : IntKind.i64.wrap (-x) = -x := IntWalk.i64_in _ (by omega)
      have hmx := max_neg x
      go_wp2
      go_ret
      exact ⟨ret_int HX.out, hd⟩
    · have hne : (y != 0) = true := by simpa using h0
      have hyz : (y == 0) = false := by simpa using h0
      have hm : (x.tmod y).natAbs < y.natAbs := by rw [Int.natAbs_tmod]; exact Nat.mod_lt _ (by omega)
      have HG : Hid (gcdI y (x.tmod y) = gcdI a b) := by unfold Hid; rw [gcdI_step, hg.out]
      obtain ⟨r, hr⟩ : ∃ r, x.tmod y = r := ⟨_, rfl⟩
      rw [hr] at hm HG
      have hwr : IntKind.i64.wrap r = r := IntWalk.i64_in _ (by omega)
      go_wp2
      go_quiet (fail)
      go_wp2
      go_roundw
      case rel => exact ⟨y, r, rfl, by first | rfl | rw [hr], hy, by omega, HG, hd.drewN _⟩
      case measure => simp [intOf]; omega
theorem common_as (a b : Int) (g : Nat) (w : World) (ha : -999999999999999 ≤ a ∧ a ≤ 999999999999999) (hb : -999999999999999 ≤ b ∧ b ≤ 999999999999999) (hg : gcdI a b = g) :
    Calls Try.prog 91 #[.int .i64 a, .int .i64 b] w fun e w' => e = .returned (.int .i64 (g : Int)) ∧ Dr w w' := by
  subst hg; exact common_any a b w ha hb

/-- The parts of a fraction are in range. -/
def rangeB (n d : Int) : Bool := inB n (-9999999) 9999999 && inB d 1 9999999

set_option maxRecDepth 100000 in
set_option maxHeartbeats 2000000 in
/-- **partsInRange**. -/
theorem range_as (n d : Int) (v : Bool) (w : World) (hv : rangeB n d = v) :
    Calls Try.prog 90 #[.int .i64 n, .int .i64 d] w fun e w' => e = .returned (.bool v) ∧ w = w' := by
  subst hv
  by_cases h1 : -9999999 ≤ n
  · by_cases h2 : n ≤ 9999999
    · by_cases h3 : 1 ≤ d
      · by_cases h4 : d ≤ 9999999
        · have e : rangeB n d = true := by simp [rangeB, inB]; omega
          rw [e]; clear e
          go_enter Try.func90, Try.ntmps90
          go_wp2
          go_ret
          exact ⟨rfl, rfl⟩
        · have e : rangeB n d = false := by simp [rangeB, inB]; omega
          rw [e]; clear e
          go_enter Try.func90, Try.ntmps90
          go_wp2
          go_ret
          exact ⟨rfl, rfl⟩
      · have e : rangeB n d = false := by simp [rangeB, inB]; omega
        rw [e]; clear e
        go_enter Try.func90, Try.ntmps90
        go_wp2
        go_ret
        exact ⟨rfl, rfl⟩
    · have e : rangeB n d = false := by simp [rangeB, inB]; omega
      rw [e]; clear e
      go_enter Try.func90, Try.ntmps90
      go_wp2
      go_ret
      exact ⟨rfl, rfl⟩
  · have e : rangeB n d = false := by simp [rangeB, inB]; omega
    rw [e]; clear e
    go_enter Try.func90, Try.ntmps90
    go_wp2
    go_ret
    exact ⟨rfl, rfl⟩

set_option maxRecDepth 100000 in
set_option maxHeartbeats 2000000 in
/-- **(Frac).parts**. -/
theorem parts_any (x y : Int) (w : World) :
    Calls Try.prog 89 #[.agg #[.int .i64 x, .int .i64 y]] w fun e w' => e = .returned (.tuple #[.int .i64 x, .int .i64 y]) ∧ Below w.heap.size w w' := by
  have T0 := Two.new w x y 40
  obtain ⟨la, a0, a9, -, -⟩ := T0
  have B0 := Lib.hid ((Below.refl _ w).alloc (Nat.le_refl _) (.cells #[.int .i64 x, .int .i64 y] 40))
  go_enter Try.func89, Try.ntmps89
  go_wp2
  go_quiet (fail)
  go_wp2
  go_ret2
  exact ⟨rfl, B0.out.trans (below_drewN _ _ _)⟩

set_option maxRecDepth 100000 in
set_option maxHeartbeats 2000000 in
/-- **(Frac).valid**. -/
theorem valid_as (x y : Int) (v : Bool) (w : World) (hv : fracB (x, y) = v) :
    Calls Try.prog 52 #[.agg #[.int .i64 x, .int .i64 y]] w fun e w' => e = .returned (.bool v) ∧ Below w.heap.size w w' := by
  obtain ⟨la, a0, a9, -, -⟩ := Two.new w x y 40
  have B0 := Lib.hid ((Below.refl _ w).alloc (Nat.le_refl _) (.cells #[.int .i64 x, .int .i64 y] 40))
  have HP : Hid (fracB (x, y) = (rangeB x y && decide (gcdI x y = 1))) := by unfold Hid fracB rangeB; rw [Bool.and_assoc]
  subst hv
  cases h1 : rangeB x y
  · have H1 := Lib.hid h1
    clear h1
    go_enter Try.func52, Try.ntmps52
    go_wp2_with fail
    refine (parts_any x y _).mono ?_
    rintro e w1 ⟨rfl, hb⟩
    have B1 := Lib.hid (below_on B0.out hb)
    clear hb
    go_wp2_with fail
    refine (range_as x y false _ H1.out).mono ?_
    rintro e w2 ⟨rfl, rfl⟩
    go_wp2
    go_ret
    exact ⟨ret_bool (by rw [HP.out, H1.out]; rfl), B1.out⟩
  · have hr : (-9999999 ≤ x ∧ x ≤ 9999999) ∧ 1 ≤ y ∧ y ≤ 9999999 := by simpa [rangeB, inB] using h1
    have H1 := Lib.hid h1
    obtain ⟨g, hg⟩ : ∃ g, gcdI x y = g := ⟨_, rfl⟩
    obtain ⟨b, hb⟩ : ∃ b, decide (gcdI x y = 1) = b := ⟨_, rfl⟩
    have hve : ((g : Int) == 1) = b := by rw [← hb, hg, Bool.eq_iff_iff]; simp; omega
    have HB := Lib.hid hb
    have HG := Lib.hid hg
    clear h1 hb hg
    go_enter Try.func52, Try.ntmps52
    go_wp2_with fail
    refine (parts_any x y _).mono ?_
    rintro e w1 ⟨rfl, hb⟩
    have B1 := Lib.hid (below_on B0.out hb)
    clear hb
    go_wp2_with fail
    refine (range_as x y true _ H1.out).mono ?_
    rintro e w2 ⟨rfl, rfl⟩
    go_wp2_with fail
    refine (common_as x y g _ (by omega) (by omega) HG.out).mono ?_
    rintro e w3 ⟨rfl, hd⟩
    go_wp2
    go_ret
    exact ⟨ret_bool (by rw [HP.out, H1.out, HB.out]; rfl), below_on B1.out (hd.below _)⟩

end Go.Proofs.Ytafnmongglhlaaa

namespace Go.Proofs.Ytafnmongglhlaaa
open Go.RowKit

/-- What 'reduced' answers. -/
def redOk (n d : Int) : Bool := fracB (ofF n d)
def redR (n d : Int) : Fr := if redOk n d = true then ofF n d else (0, 0)
theorem redOk_range {n d : Int} (hd : 0 < d) : redOk n d = rangeB (ofF n d).1 (ofF n d).2 := by
  have h := (ofF_red (n := n) hd).2
  unfold redOk fracB rangeB
  rw [h, Bool.eq_iff_iff]
  simp

set_option maxRecDepth 100000 in
set_option maxHeartbeats 2000000 in
/-- **reduced**. -/
theorem reduced_as (n d x y : Int) (ok : Bool) (w : World) (hn : -999999999999999 ≤ n ∧ n ≤ 999999999999999) (hd : 1 ≤ d ∧ d ≤ 999999999999999) (hf : redR n d = (x, y)) (hok : redOk n d = ok) :
    Calls Try.prog 92 #[.int .i64 n, .int .i64 d] w (ToldF w x y ok) := by
  have hg := gcdI_pos (n := n) (d := d) (by omega)
  obtain ⟨g, hge⟩ : ∃ g, gcdI n d = g := ⟨_, rfl⟩
  have HGE := Lib.hid hge
  have hdn : (g : Int) ∣ n := by rw [← hge]; exact gcdI_dvd_left n d
  have hdd : (g : Int) ∣ d := by rw [← hge]; exact gcdI_dvd_right n d
  rw [hge] at hg
  have hgz : ((g : Int) == 0) = false := beq_eq_false_iff_ne.2 (by omega)
  obtain ⟨u, hu⟩ : ∃ u, (ofF n d).1 = u := ⟨_, rfl⟩
  obtain ⟨v, hv⟩ : ∃ v, (ofF n d).2 = v := ⟨_, rfl⟩
  have q1 : n / (g : Int) = u := by rw [← hu, ← hge]; rfl
  have q2 : d / (g : Int) = v := by rw [← hv, ← hge]; rfl
  have t1 : n.tdiv (g : Int) = u := by rw [← q1]; exact Int.tdiv_eq_ediv_of_dvd hdn
  have t2 : d.tdiv (g : Int) = v := by rw [← q2]; exact Int.tdiv_eq_ediv_of_dvd hdd
  have hb := ofF_bound (n := n) (d := d) (by omega)
  rw [hu, hv] at hb
  have hwu : IntKind.i64.wrap u = u := IntWalk.i64_in _ (by omega)
  have hwv : IntKind.i64.wrap v = v := IntWalk.i64_in _ (by omega)
  have hR : rangeB u v = ok := by rw [← hok, redOk_range (by omega), hu, hv]
  have HR := Lib.hid hR
  have HF : Hid ((x, y) = if ok = true then (u, v) else (0, 0)) := by unfold Hid; rw [← hf, redR, hok, ← hu, ← hv]
  have T0 := Lib.hid (Two.new w 0 0 40)
  have B0 := Lib.hid ((Below.refl _ w).alloc (Nat.le_refl _) (.cells #[.int .i64 0, .int .i64 0] 40))
  clear hdn hdd hge hu hv hb hR hf hok
  cases ok
  · obtain ⟨rfl, rfl⟩ := Prod.ext_iff.1 HF.out
    go_enter Try.func92, Try.ntmps92
    go_wp2_with fail
    refine (common_as n d g _ (by omega) (by omega) HGE.out).mono ?_
    rintro e w1 ⟨rfl, hd1⟩
    have T1 := Lib.hid (T0.out.below (hd1.below _))
    have B1 := Lib.hid (below_on B0.out (hd1.below _))
    clear hd1
    go_wp2
    go_quiet (first | (go_at_call 90; exact quiet_same (range_as u v false _ HR.out)))
    have T2 := Lib.hid (T1.out.below (below_drewN _ _ nq))
    have B2 := Lib.hid (below_on B1.out (below_drewN _ _ nq))
    obtain ⟨lr, r0, r9, g0, g9⟩ := T2.out
    have k0 := Two.set0 T2.out (.int .i64 0)
    have k9 := Two.set1 T2.out (.int .i64 0) (.int .i64 0)
    go_wp2
    refine bodyPost_ret (v := .tuple #[.agg #[.int .i64 0, .int .i64 0], .bool false]) (by simp [results, Try.results92, go_sem, k0, k9]) rfl ?_
    exact told_f rfl rfl rfl (below_set2 B2.out (Nat.le_refl _) _ _)
  · obtain ⟨rfl, rfl⟩ := Prod.ext_iff.1 HF.out
    go_enter Try.func92, Try.ntmps92
    go_wp2_with fail
    refine (common_as n d g _ (by omega) (by omega) HGE.out).mono ?_
    rintro e w1 ⟨rfl, hd1⟩
    have T1 := Lib.hid (T0.out.below (hd1.below _))
    have B1 := Lib.hid (below_on B0.out (hd1.below _))
    clear hd1
    go_wp2
    go_quiet (first | (go_at_call 90; exact quiet_same (range_as x y true _ HR.out)))
    have T2 := Lib.hid (T1.out.below (below_drewN _ _ nq))
    have B2 := Lib.hid (below_on B1.out (below_drewN _ _ nq))
    obtain ⟨lr, r0, r9, g0, g9⟩ := T1.out
    have T3 := Lib.hid (T1.out.below (below_drewN _ _ (nq + 1)))
    have B3 := Lib.hid (below_on B1.out (below_drewN _ _ (nq + 1)))
    go_wp2
    go_region
    all_goals
      have k0 := Two.set0 T3.out (.int .i64 x)
      have k9 := Two.set1 T3.out (.int .i64 x) (.int .i64 y)
      go_wp2
      refine bodyPost_ret (v := .tuple #[.agg #[.int .i64 x, .int .i64 y], .bool true]) (by simp [results, Try.results92, go_sem, k0, k9]) rfl ?_
      exact told_f rfl rfl rfl (below_set2 B3.out (Nat.le_refl _) _ _)

set_option maxRecDepth 100000 in
set_option maxHeartbeats 4000000 in
/-- **(Frac).plus**, at two valid fractions. -/
theorem plus_as (a1 a2 b1 b2 x y : Int) (ok : Bool) (w : World) (ha : fracB (a1, a2) = true) (hv : fracB (b1, b2) = true) (hf : redR (sumF (a1, a2) (b1, b2)).1 (sumF (a1, a2) (b1, b2)).2 = (x, y)) (hok : redOk (sumF (a1, a2) (b1, b2)).1 (sumF (a1, a2) (b1, b2)).2 = ok) :
    Calls Try.prog 54 #[.agg #[.int .i64 a1, .int .i64 a2], .agg #[.int .i64 b1, .int .i64 b2]] w (ToldF w x y ok) := by
  have T0 := Lib.hid (Tri.new w a1 a2 b1 b2 40 40 40)
  have B0 := Lib.hid (three_allocs w (.cells #[.int .i64 a1, .int .i64 a2] 40) (.cells #[.int .i64 b1, .int .i64 b2] 40) (.cells #[.int .i64 0, .int .i64 0] 40))
  have hbd := sumF_bound ha hv
  obtain ⟨hA1, hA2, -⟩ := (fracB_iff _).1 ha
  obtain ⟨hV1, hV2, -⟩ := (fracB_iff _).1 hv
  have hA1' : -9999999 ≤ a1 ∧ a1 ≤ 9999999 := hA1
  have hA2' : 1 ≤ a2 ∧ a2 ≤ 9999999 := hA2
  have hV1' : -9999999 ≤ b1 ∧ b1 ≤ 9999999 := hV1
  have hV2' : 1 ≤ b2 ∧ b2 ≤ 9999999 := hV2
  simp only [sumF] at hbd hf hok
  have m1 := mul_bound hA1' (y := b2) ⟨by omega, by omega⟩
  have m2 := mul_bound hV1' (y := a2) ⟨by omega, by omega⟩
  have m3 := mul_bound (x := a2) ⟨by omega, by omega⟩ (y := b2) ⟨by omega, by omega⟩
  have hp1 : IntKind.i64.wrap (a1 * b2) = a1 * b2 := IntWalk.i64_in _ (by omega)
  have hp2 : IntKind.i64.wrap (b1 * a2) = b1 * a2 := IntWalk.i64_in _ (by omega)
  have hp3 : IntKind.i64.wrap (a2 * b2) = a2 * b2 := IntWalk.i64_in _ (by omega)
  have hp4 : IntKind.i64.wrap (a1 * b2 + b1 * a2) = a1 * b2 + b1 * a2 := IntWalk.i64_in _ (by omega)
  have HF := Lib.hid hf
  have HOK := Lib.hid hok
  clear ha hv hf hok hA1 hA2 hV1 hV2
  go_enter Try.func54, Try.ntmps54
  go_wp2_with fail
  refine (parts_any a1 a2 _).mono ?_
  rintro e w1 ⟨rfl, hb⟩
  have T1 := Lib.hid (T0.out.below hb)
  have B1 := Lib.hid (below_on B0.out hb)
  clear hb
  obtain ⟨⟨la, a0, a9, -, -⟩, ⟨lb, b0, b9, -, -⟩, ⟨lr, r0, r9, g0, g9⟩⟩ := T1.out
  go_wp2_with fail
  refine (parts_any b1 b2 _).mono ?_
  rintro e w2 ⟨rfl, hb⟩
  clear la a0 a9 lb b0 b9 lr r0 r9 g0 g9
  have T2 := Lib.hid (T1.out.below hb)
  have B2 := Lib.hid (below_on B1.out hb)
  clear hb
  obtain ⟨⟨la, a0, a9, -, -⟩, ⟨lb, b0, b9, -, -⟩, ⟨lr, r0, r9, g0, g9⟩⟩ := T2.out
  go_wp2_with fail
  refine (reduced_as _ _ x y ok _ (by omega) (by omega) HF.out HOK.out).mono ?_
  rintro e w3 ⟨rfl, hb⟩
  clear la a0 a9 lb b0 b9 lr r0 r9 g0 g9
  have T3 := Lib.hid (T2.out.below hb)
  have B3 := Lib.hid (below_on B2.out hb)
  clear hb
  obtain ⟨⟨la, a0, a9, -, -⟩, ⟨lb, b0, b9, -, -⟩, ⟨lr, r0, r9, g0, g9⟩⟩ := T3.out
  have k0 := Two.set0 T3.out.r (.int .i64 x)
  have k9 := Two.set1 T3.out.r (.int .i64 x) (.int .i64 y)
  go_wp2
  refine bodyPost_ret (v := .tuple #[.agg #[.int .i64 x, .int .i64 y], .bool ok]) (by simp [results, Try.results54, go_sem, k0, k9]) rfl ?_
  exact told_f rfl rfl rfl (below_set2 B3.out (by omega) _ _)

set_option maxRecDepth 100000 in
set_option maxHeartbeats 4000000 in
/-- **(Frac).times**, at two valid fractions. -/
theorem times_as (a1 a2 b1 b2 x y : Int) (ok : Bool) (w : World) (ha : fracB (a1, a2) = true) (hv : fracB (b1, b2) = true) (hf : redR (proF (a1, a2) (b1, b2)).1 (proF (a1, a2) (b1, b2)).2 = (x, y)) (hok : redOk (proF (a1, a2) (b1, b2)).1 (proF (a1, a2) (b1, b2)).2 = ok) :
    Calls Try.prog 127 #[.agg #[.int .i64 a1, .int .i64 a2], .agg #[.int .i64 b1, .int .i64 b2]] w (ToldF w x y ok) := by
  have T0 := Lib.hid (Tri.new w a1 a2 b1 b2 40 40 40)
  have B0 := Lib.hid (three_allocs w (.cells #[.int .i64 a1, .int .i64 a2] 40) (.cells #[.int .i64 b1, .int .i64 b2] 40) (.cells #[.int .i64 0, .int .i64 0] 40))
  have hbd := proF_bound ha hv
  obtain ⟨hA1, hA2, -⟩ := (fracB_iff _).1 ha
  obtain ⟨hV1, hV2, -⟩ := (fracB_iff _).1 hv
  have hA1' : -9999999 ≤ a1 ∧ a1 ≤ 9999999 := hA1
  have hA2' : 1 ≤ a2 ∧ a2 ≤ 9999999 := hA2
  have hV1' : -9999999 ≤ b1 ∧ b1 ≤ 9999999 := hV1
  have hV2' : 1 ≤ b2 ∧ b2 ≤ 9999999 := hV2
  simp only [proF] at hbd hf hok
  have m1 := mul_bound2 hA1' hV1'
  have m3 := mul_bound (x := a2) ⟨by omega, by omega⟩ (y := b2) ⟨by omega, by omega⟩
  have hp1 : IntKind.i64.wrap (a1 * b1) = a1 * b1 := IntWalk.i64_in _ (by omega)
  have hp3 : IntKind.i64.wrap (a2 * b2) = a2 * b2 := IntWalk.i64_in _ (by omega)
  have HF := Lib.hid hf
  have HOK := Lib.hid hok
  clear ha hv hf hok hA1 hA2 hV1 hV2
  go_enter Try.func127, Try.ntmps127
  go_wp2_with fail
  refine (parts_any a1 a2 _).mono ?_
  rintro e w1 ⟨rfl, hb⟩
  have T1 := Lib.hid (T0.out.below hb)
  have B1 := Lib.hid (below_on B0.out hb)
  clear hb
  obtain ⟨⟨la, a0, a9, -, -⟩, ⟨lb, b0, b9, -, -⟩, ⟨lr, r0, r9, g0, g9⟩⟩ := T1.out
  go_wp2_with fail
  refine (parts_any b1 b2 _).mono ?_
  rintro e w2 ⟨rfl, hb⟩
  clear la a0 a9 lb b0 b9 lr r0 r9 g0 g9
  have T2 := Lib.hid (T1.out.below hb)
  have B2 := Lib.hid (below_on B1.out hb)
  clear hb
  obtain ⟨⟨la, a0, a9, -, -⟩, ⟨lb, b0, b9, -, -⟩, ⟨lr, r0, r9, g0, g9⟩⟩ := T2.out
  go_wp2_with fail
  refine (reduced_as _ _ x y ok _ (by omega) (by omega) HF.out HOK.out).mono ?_
  rintro e w3 ⟨rfl, hb⟩
  clear la a0 a9 lb b0 b9 lr r0 r9 g0 g9
  have T3 := Lib.hid (T2.out.below hb)
  have B3 := Lib.hid (below_on B2.out hb)
  clear hb
  obtain ⟨⟨la, a0, a9, -, -⟩, ⟨lb, b0, b9, -, -⟩, ⟨lr, r0, r9, g0, g9⟩⟩ := T3.out
  have k0 := Two.set0 T3.out.r (.int .i64 x)
  have k9 := Two.set1 T3.out.r (.int .i64 x) (.int .i64 y)
  go_wp2
  refine bodyPost_ret (v := .tuple #[.agg #[.int .i64 x, .int .i64 y], .bool ok]) (by simp [results, Try.results127, go_sem, k0, k9]) rfl ?_
  exact told_f rfl rfl rfl (below_set2 B3.out (by omega) _ _)

set_option maxRecDepth 100000 in
set_option maxHeartbeats 2000000 in
/-- **(Frac).less**, at two valid fractions. -/
theorem less_as (a1 a2 b1 b2 : Int) (v : Bool) (w : World) (ha : fracB (a1, a2) = true) (hv : fracB (b1, b2) = true) (hf : lessF (a1, a2) (b1, b2) = v) :
    Calls Try.prog 53 #[.agg #[.int .i64 a1, .int .i64 a2], .agg #[.int .i64 b1, .int .i64 b2]] w fun e w' => e = .returned (.bool v) ∧ Below w.heap.size w w' := by
  have T0 := Lib.hid (Duo.new w a1 a2 b1 b2 40 40)
  have B0 := Lib.hid (two_allocs w (.cells #[.int .i64 a1, .int .i64 a2] 40) (.cells #[.int .i64 b1, .int .i64 b2] 40))
  obtain ⟨hA1, hA2, -⟩ := (fracB_iff _).1 ha
  obtain ⟨hV1, hV2, -⟩ := (fracB_iff _).1 hv
  have hA1' : -9999999 ≤ a1 ∧ a1 ≤ 9999999 := hA1
  have hA2' : 1 ≤ a2 ∧ a2 ≤ 9999999 := hA2
  have hV1' : -9999999 ≤ b1 ∧ b1 ≤ 9999999 := hV1
  have hV2' : 1 ≤ b2 ∧ b2 ≤ 9999999 := hV2
  have m1 := mul_bound hA1' (y := b2) ⟨by omega, by omega⟩
  have m2 := mul_bound hV1' (y := a2) ⟨by omega, by omega⟩
  have hp1 : IntKind.i64.wrap (a1 * b2) = a1 * b2 := IntWalk.i64_in _ (by omega)
  have hp2 : IntKind.i64.wrap (b1 * a2) = b1 * a2 := IntWalk.i64_in _ (by omega)
  have hD : decide (a1 * b2 < b1 * a2) = v := hf
  clear ha hv hf hA1 hA2 hV1 hV2 m1 m2
  go_enter Try.func53, Try.ntmps53
  go_wp2_with fail
  refine (parts_any a1 a2 _).mono ?_
  rintro e w1 ⟨rfl, hb⟩
  have B1 := Lib.hid (below_on B0.out hb)
  have T1 := Lib.hid (T0.out.below hb)
  clear hb
  obtain ⟨⟨la, a0, a9, -, -⟩, ⟨lb, b0, b9, -, -⟩⟩ := T1.out
  go_wp2_with fail
  refine (parts_any b1 b2 _).mono ?_
  rintro e w2 ⟨rfl, hb⟩
  have B2 := Lib.hid (below_on B1.out hb)
  clear hb la a0 a9 lb b0 b9
  go_wp2
  go_ret
  exact ⟨rfl, B2.out⟩

set_option maxRecDepth 100000 in
set_option maxHeartbeats 2000000 in
/-- **impl.FracOf**. -/
theorem implFracOf_as (n d x y : Int) (ok : Bool) (w : World) (hf : ofR n d = (x, y)) (hok : ofOk n d = ok) :
    Calls Try.prog 130 #[.int .i64 n, .int .i64 d] w (ToldF w x y ok) := by
  have HOK : Hid (rangeB n d = ok) := hok
  have T0 := Lib.hid (Two.new w 0 0 40)
  have B0 := Lib.hid ((Below.refl _ w).alloc (Nat.le_refl _) (.cells #[.int .i64 0, .int .i64 0] 40))
  cases ok
  · rw [ofR_no hok] at hf
    obtain ⟨rfl, rfl⟩ := Prod.ext_iff.1 hf
    clear hok hf
    go_enter Try.func130, Try.ntmps130
    go_wp2_with fail
    refine (range_as n d false _ HOK.out).mono ?_
    rintro e w1 ⟨rfl, rfl⟩
    go_wp2
    go_returns
    exact told_f rfl rfl rfl (by go_grown)
  · obtain ⟨b1, b2⟩ := (ofOk_iff n d).1 hok
    have hr : redOk n d = true := by
      unfold redOk
      have := (of_valid hok).1
      rwa [ofR_yes hok] at this
    have HR : Hid (redR n d = (x, y)) := by unfold Hid redR; rw [if_pos hr, ← hf, ofR_yes hok]
    have HK := Lib.hid hr
    clear hok hf hr
    go_enter Try.func130, Try.ntmps130
    go_wp2_with fail
    refine (range_as n d true _ HOK.out).mono ?_
    rintro e w1 ⟨rfl, rfl⟩
    go_wp2_with fail
    refine (reduced_as n d x y true _ (by omega) (by omega) HR.out HK.out).mono ?_
    rintro e w1 ⟨rfl, hb⟩
    have T1 := Lib.hid (T0.out.below hb)
    have B1 := Lib.hid (below_on B0.out hb)
    clear hb
    obtain ⟨lr, r0, r9, g0, g9⟩ := T1.out
    have k0 := Two.set0 T1.out (.int .i64 x)
    have k9 := Two.set1 T1.out (.int .i64 x) (.int .i64 y)
    go_wp2
    refine bodyPost_ret (v := .tuple #[.agg #[.int .i64 x, .int .i64 y], .bool true]) (by simp [results, Try.results130, go_sem, k0, k9]) rfl ?_
    exact told_f rfl rfl rfl (below_set2 B1.out (Nat.le_refl _) _ _)

set_option maxRecDepth 100000 in
set_option maxHeartbeats 4000000 in
/-- **impl.FracAdd**. -/
theorem implFracAdd_as (a1 a2 b1 b2 x y : Int) (ok : Bool) (w : World) (hf : addR (a1, a2) (b1, b2) = (x, y)) (hok : addOk (a1, a2) (b1, b2) = ok) :
    Calls Try.prog 23 #[.agg #[.int .i64 a1, .int .i64 a2], .agg #[.int .i64 b1, .int .i64 b2]] w (ToldF w x y ok) := by
  have T0 := Lib.hid (Tri.new w a1 a2 b1 b2 40 40 40)
  have B0 := Lib.hid (three_allocs w (.cells #[.int .i64 a1, .int .i64 a2] 40) (.cells #[.int .i64 b1, .int .i64 b2] 40) (.cells #[.int .i64 0, .int .i64 0] 40))
  cases ha : fracB (a1, a2)
  · obtain rfl : ok = false := by rw [← hok]; simp [addOk, ha]
    rw [addR_no hok] at hf
    obtain ⟨rfl, rfl⟩ := Prod.ext_iff.1 hf
    clear hok hf
    have HA := Lib.hid ha
    clear ha
    go_enter Try.func23, Try.ntmps23
    go_wp2_with fail
    refine (valid_as a1 a2 false _ HA.out).mono ?_
    rintro e w1 ⟨rfl, hb⟩
    have T1 := Lib.hid (T0.out.below hb)
    have B1 := Lib.hid (below_on B0.out hb)
    clear hb
    obtain ⟨⟨la, a0, a9, -, -⟩, ⟨lb, b0, b9, -, -⟩, ⟨lr, r0, r9, g0, g9⟩⟩ := T1.out
    have k0 := Two.set0 T1.out.r (.int .i64 0)
    have k9 := Two.set1 T1.out.r (.int .i64 0) (.int .i64 0)
    go_wp2
    refine bodyPost_ret (v := .tuple #[.agg #[.int .i64 0, .int .i64 0], .bool false]) (by simp [results, Try.results23, go_sem, k0, k9]) rfl ?_
    exact told_f rfl rfl rfl (below_set2 B1.out (by omega) _ _)
  · cases hv : fracB (b1, b2)
    · obtain rfl : ok = false := by rw [← hok]; simp [addOk, ha, hv]
      rw [addR_no hok] at hf
      obtain ⟨rfl, rfl⟩ := Prod.ext_iff.1 hf
      clear hok hf
      have HA := Lib.hid ha
      have HV := Lib.hid hv
      clear ha hv
      go_enter Try.func23, Try.ntmps23
      go_wp2_with fail
      refine (valid_as a1 a2 true _ HA.out).mono ?_
      rintro e w1 ⟨rfl, hb⟩
      have T1 := Lib.hid (T0.out.below hb)
      have B1 := Lib.hid (below_on B0.out hb)
      clear hb
      obtain ⟨⟨la, a0, a9, -, -⟩, ⟨lb, b0, b9, -, -⟩, ⟨lr, r0, r9, g0, g9⟩⟩ := T1.out
      go_wp2_with fail
      refine (valid_as b1 b2 false _ HV.out).mono ?_
      rintro e w2 ⟨rfl, hb⟩
      clear la a0 a9 lb b0 b9 lr r0 r9 g0 g9
      have T2 := Lib.hid (T1.out.below hb)
      have B2 := Lib.hid (below_on B1.out hb)
      clear hb
      obtain ⟨⟨la, a0, a9, -, -⟩, ⟨lb, b0, b9, -, -⟩, ⟨lr, r0, r9, g0, g9⟩⟩ := T2.out
      have k0 := Two.set0 T2.out.r (.int .i64 0)
      have k9 := Two.set1 T2.out.r (.int .i64 0) (.int .i64 0)
      go_wp2
      refine bodyPost_ret (v := .tuple #[.agg #[.int .i64 0, .int .i64 0], .bool false]) (by simp [results, Try.results23, go_sem, k0, k9]) rfl ?_
      exact told_f rfl rfl rfl (below_set2 B2.out (by omega) _ _)
    · have hO : addOk (a1, a2) (b1, b2) = redOk (sumF (a1, a2) (b1, b2)).1 (sumF (a1, a2) (b1, b2)).2 := by simp [addOk, redOk, ha, hv]
      have hE : addR (a1, a2) (b1, b2) = redR (sumF (a1, a2) (b1, b2)).1 (sumF (a1, a2) (b1, b2)).2 := by unfold addR redR; rw [hO]
      rw [hO] at hok
      rw [hE] at hf
      have HA := Lib.hid ha
      have HV := Lib.hid hv
      have HF := Lib.hid hf
      have HOK := Lib.hid hok
      clear ha hv hf hok hO hE
      go_enter Try.func23, Try.ntmps23
      go_wp2_with fail
      refine (valid_as a1 a2 true _ HA.out).mono ?_
      rintro e w1 ⟨rfl, hb⟩
      have T1 := Lib.hid (T0.out.below hb)
      have B1 := Lib.hid (below_on B0.out hb)
      clear hb
      obtain ⟨⟨la, a0, a9, -, -⟩, ⟨lb, b0, b9, -, -⟩, ⟨lr, r0, r9, g0, g9⟩⟩ := T1.out
      go_wp2_with fail
      refine (valid_as b1 b2 true _ HV.out).mono ?_
      rintro e w2 ⟨rfl, hb⟩
      clear la a0 a9 lb b0 b9 lr r0 r9 g0 g9
      have T2 := Lib.hid (T1.out.below hb)
      have B2 := Lib.hid (below_on B1.out hb)
      clear hb
      obtain ⟨⟨la, a0, a9, -, -⟩, ⟨lb, b0, b9, -, -⟩, ⟨lr, r0, r9, g0, g9⟩⟩ := T2.out
      go_wp2_with fail
      refine (plus_as a1 a2 b1 b2 x y ok _ HA.out HV.out HF.out HOK.out).mono ?_
      rintro e w3 ⟨rfl, hb⟩
      clear la a0 a9 lb b0 b9 lr r0 r9 g0 g9
      have T3 := Lib.hid (T2.out.below hb)
      have B3 := Lib.hid (below_on B2.out hb)
      clear hb
      obtain ⟨⟨la, a0, a9, -, -⟩, ⟨lb, b0, b9, -, -⟩, ⟨lr, r0, r9, g0, g9⟩⟩ := T3.out
      have k0 := Two.set0 T3.out.r (.int .i64 x)
      have k9 := Two.set1 T3.out.r (.int .i64 x) (.int .i64 y)
      go_wp2
      refine bodyPost_ret (v := .tuple #[.agg #[.int .i64 x, .int .i64 y], .bool ok]) (by simp [results, Try.results23, go_sem, k0, k9]) rfl ?_
      exact told_f rfl rfl rfl (below_set2 B3.out (by omega) _ _)

set_option maxRecDepth 100000 in
set_option maxHeartbeats 4000000 in
/-- **impl.FracLess**. -/
theorem implFracLess_as (a1 a2 b1 b2 : Int) (v : Bool) (w : World) (hf : lessB (a1, a2) (b1, b2) = v) :
    Calls Try.prog 22 #[.agg #[.int .i64 a1, .int .i64 a2], .agg #[.int .i64 b1, .int .i64 b2]] w fun e w' => e = .returned (.bool v) ∧ Below w.heap.size w w' := by
  have T0 := Lib.hid (Duo.new w a1 a2 b1 b2 40 40)
  have B0 := Lib.hid (two_allocs w (.cells #[.int .i64 a1, .int .i64 a2] 40) (.cells #[.int .i64 b1, .int .i64 b2] 40))
  cases ha : fracB (a1, a2)
  · obtain rfl : v = false := by rw [← hf]; simp [lessB, ha]
    have HA := Lib.hid ha
    clear ha hf
    go_enter Try.func22, Try.ntmps22
    go_wp2_with fail
    refine (valid_as a1 a2 false _ HA.out).mono ?_
    rintro e w1 ⟨rfl, hb⟩
    have B1 := Lib.hid (below_on B0.out hb)
    clear hb
    go_wp2
    go_ret
    exact ⟨rfl, B1.out⟩
  · cases hv : fracB (b1, b2)
    · obtain rfl : v = false := by rw [← hf]; simp [lessB, ha, hv]
      have HA := Lib.hid ha
      have HV := Lib.hid hv
      clear ha hv hf
      go_enter Try.func22, Try.ntmps22
      go_wp2_with fail
      refine (valid_as a1 a2 true _ HA.out).mono ?_
      rintro e w1 ⟨rfl, hb⟩
      have B1 := Lib.hid (below_on B0.out hb)
      have T1 := Lib.hid (T0.out.below hb)
      clear hb
      obtain ⟨⟨la, a0, a9, -, -⟩, ⟨lb, b0, b9, -, -⟩⟩ := T1.out
      go_wp2_with fail
      refine (valid_as b1 b2 false _ HV.out).mono ?_
      rintro e w2 ⟨rfl, hb⟩
      have B2 := Lib.hid (below_on B1.out hb)
      clear hb
      go_wp2
      go_ret
      exact ⟨rfl, B2.out⟩
    · have hl : lessF (a1, a2) (b1, b2) = v := by rw [← hf]; simp [lessB, ha, hv]
      have HA := Lib.hid ha
      have HV := Lib.hid hv
      have HL := Lib.hid hl
      clear ha hv hf hl
      go_enter Try.func22, Try.ntmps22
      go_wp2_with fail
      refine (valid_as a1 a2 true _ HA.out).mono ?_
      rintro e w1 ⟨rfl, hb⟩
      have B1 := Lib.hid (below_on B0.out hb)
      have T1 := Lib.hid (T0.out.below hb)
      clear hb
      obtain ⟨⟨la, a0, a9, -, -⟩, ⟨lb, b0, b9, -, -⟩⟩ := T1.out
      go_wp2_with fail
      refine (valid_as b1 b2 true _ HV.out).mono ?_
      rintro e w2 ⟨rfl, hb⟩
      have B2 := Lib.hid (below_on B1.out hb)
      have T2 := Lib.hid (T1.out.below hb)
      clear hb la a0 a9 lb b0 b9
      obtain ⟨⟨la, a0, a9, -, -⟩, ⟨lb, b0, b9, -, -⟩⟩ := T2.out
      go_wp2_with fail
      refine (less_as a1 a2 b1 b2 v _ HA.out HV.out HL.out).mono ?_
      rintro e w3 ⟨rfl, hb⟩
      have B3 := Lib.hid (below_on B2.out hb)
      clear hb
      go_wp2
      go_ret
      exact ⟨rfl, B3.out⟩

end Go.Proofs.Ytafnmongglhlaaa
