/-
  spec.l5Gcd, FracValid, l5Of, FracOf, FracAdd, FracTimes and FracLess: what they answer at every fraction; they write into no memory that was there.
  impl.commonDivisor, partsInRange, the methods parts and valid of a fraction, and impl.FracValid: what they answer; they write into no memory that was there.
  impl.reduced, the methods plus, times and less of a fraction, impl.FracOf, FracAdd, FracTimes and FracLess: what they answer; they write into no memory that was there.
  impl.ShareParties and spec.ShareParties: contracts at all arguments. They write into no memory that was there.
  laws.toFrac: a fraction that came in as one of the program. No condition.
  laws.eqFrac: two fractions compared. No condition.
  Two fractions compared with == and !=. Of no function.
-/
import Derived.Test.YtbcemgmfkddafaaGrp3
import Derived.Test.YtbcemgmfkddafaaGrp7
import Derived.Handy
import Derived.Test.YtbcemgmfkddafaaGrp8
import Derived.Test.YtbcemgmfkddafaaGrp9
import Derived.Test.YtbcemgmfkddafaaSeatS
import Derived.Deep.QuietTactic
import Derived.Laws.StructEq
namespace Go.Proofs.Ytbcemgmfkddafaa
open Go.RowKit

theorem max_neg (n : Int) : (if n < -n then -n else n) = (n.natAbs : Int) := by split <;> omega
/-- A fraction as a value. -/
def frV (f : Fr) : Value := .agg #[.int .i64 f.1, .int .i64 f.2]

set_option maxHeartbeats 1000000 in
/-- **l5Gcd**. -/
theorem gcd_any (a b : Nat) (w : World) (ha : a ≤ 999999999999999) (hb : b ≤ 999999999999999) :
    Calls Try.prog 77 #[.int .i64 (a : Int), .int .i64 (b : Int)] w fun e w' => e = .returned (.int .i64 ((Nat.gcd a b : Nat) : Int)) ∧ w = w' := by
  go_enter Try.func77, Try.ntmps77
  go_wp2
  go_loop [0, 1, 5] (fun av bv rv => ∃ x y : Nat, av = .int .i64 (x : Int) ∧ bv = .int .i64 (y : Int) ∧ x ≤ 999999999999999 ∧ y ≤ 999999999999999 ∧ Hid (Nat.gcd x y = Nat.gcd a b)) (fun _ bv _ => (intOf bv).toNat)
  case atStart => exact ⟨a, b, rfl, rfl, ha, hb, rfl⟩
  case round =>
    obtain ⟨x, y, rfl, rfl, hx, hy, hg⟩ := hrel
    by_cases h0 : 0 < y
    · have hgt : decide (0 < (y : Int)) = true := decide_eq_true (by omega)
      have hyz : ((y : Int) == 0) = false := beq_eq_false_iff_ne.2 (by omega)
      obtain ⟨r, hr⟩ : ∃ r, x % y = r := ⟨_, rfl⟩
      have hry : r < y := by rw [← hr]; exact Nat.mod_lt _ h0
      have hri : ((x : Int) % (y : Int)) = (r : Int) := by rw [← hr]; exact (Int.natCast_emod x y).symm
      have HG : Hid (Nat.gcd y r = Nat.gcd a b) := by unfold Hid; rw [← hr, gcd_step, hg.out]
      clear hr
      go_wp2
      go_round
      case rel => exact ⟨y, r, rfl, by first | rfl | rw [hri], hy, by omega, HG⟩
      case measure => simp [intOf]; omega
    · obtain rfl : y = 0 := by omega
      have hgt : decide (0 < ((0 : Nat) : Int)) = false := by decide
      have HX : Hid (x = Nat.gcd a b) := by unfold Hid; rw [← hg.out, Nat.gcd_zero_right]
      go_wp2
      go_ret
      exact ⟨ret_int (by rw [← HX.out]), rfl⟩
theorem gcd_as (a b : Nat) (x y : Int) (v : Int) (w : World) (hx : (a : Int) = x) (hy : (b : Int) = y) (ha : a ≤ 999999999999999) (hb : b ≤ 999999999999999) (hv : ((Nat.gcd a b : Nat) : Int) = v) :
    Calls Try.prog 77 #[.int .i64 x, .int .i64 y] w fun e w' => e = .returned (.int .i64 v) ∧ w = w' := by
  subst hx; subst hy; subst hv; exact gcd_any a b w ha hb

set_option maxRecDepth 100000 in
set_option maxHeartbeats 2000000 in
/-- **l5Of**. -/
theorem l5Of_any (n d : Int) (w : World) (hn : -999999999999999 ≤ n ∧ n ≤ 999999999999999) (hd : 1 ≤ d ∧ d ≤ 999999999999999) :
    Calls Try.prog 62 #[.int .i64 n, .int .i64 d] w fun e w' => e = .returned (frV (ofF n d)) ∧ Below w.heap.size w w' := by
  have hg := gcdI_pos (n := n) (d := d) (by omega)
  obtain ⟨g, hge⟩ : ∃ g, gcdI n d = g := ⟨_, rfl⟩
  have HGE := Lib.hid hge
  have hdn : (g : Int) ∣ n := by rw [← hge]; exact gcdI_dvd_left n d
  have hdd : (g : Int) ∣ d := by rw [← hge]; exact gcdI_dvd_right n d
  rw [hge] at hg
  have hgz : ((g : Int) == 0) = false := beq_eq_false_iff_ne.2 (by omega)
  obtain ⟨u, hu⟩ : ∃ u, (ofF n d).1 = u := ⟨_, rfl⟩
  obtain ⟨v, hv⟩ : ∃ v, (ofF n d).2 = v := ⟨_, rfl⟩
  have HOF : Hid (ofF n d = (u, v)) := by unfold Hid; rw [← hu, ← hv]
  have q1 : n / (g : Int) = u := by rw [← hu, ← hge]; rfl
  have q2 : d / (g : Int) = v := by rw [← hv, ← hge]; rfl
  have t1 : n.tdiv (g : Int) = u := by rw [← q1]; exact Int.tdiv_eq_ediv_of_dvd hdn
  have t2 : d.tdiv (g : Int) = v := by rw [← q2]; exact Int.tdiv_eq_ediv_of_dvd hdd
  have hw0 : IntKind.i64.wrap (0 - n) = 0 - n := IntWalk.i64_in _ (by omega)
  have hb := ofF_bound (n := n) (d := d) (by omega)
  rw [hu, hv] at hb
  have hwu : IntKind.i64.wrap u = u := IntWalk.i64_in _ (by omega)
  have hmx := max_neg n
  clear hdn hdd hge hu hv
  go_enter Try.func62, Try.ntmps62
  go_wp2_with fail
  refine (gcd_as n.natAbs d.natAbs _ _ (g : Int) _ (by first | rfl | omega | (rw [hmx])) (by omega) (by omega) (by omega) (by rw [← HGE.out]; rfl)).mono ?_
  rintro e w1 ⟨rfl, rfl⟩
  go_wp2_with fail
  go_region
  all_goals (go_wp2; go_returns; exact ⟨by rw [HOF.out]; rfl, by go_grown⟩)
theorem l5Of_as (n d x y : Int) (w : World) (hn : -999999999999999 ≤ n ∧ n ≤ 999999999999999) (hd : 1 ≤ d ∧ d ≤ 999999999999999) (hf : ofF n d = (x, y)) :
    Calls Try.prog 62 #[.int .i64 n, .int .i64 d] w fun e w' => e = .returned (.agg #[.int .i64 x, .int .i64 y]) ∧ Below w.heap.size w w' := by
  have h := l5Of_any n d w hn hd
  rw [hf] at h
  exact h

/-- What is told of a fraction that is returned with a bool. -/
def ToldF (w : World) (x y : Int) (ok : Bool) (e : Ending) (w' : World) : Prop := e = .returned (.tuple #[.agg #[.int .i64 x, .int .i64 y], .bool ok]) ∧ Below w.heap.size w w'
theorem told_f {w w' : World} {x y x' y' : Int} {ok ok' : Bool} (hx : x = x') (hy : y = y') (ho : ok = ok') (hb : Below w.heap.size w w') : ToldF w x' y' ok' (.returned (.tuple #[.agg #[.int .i64 x, .int .i64 y], .bool ok])) w' := by
  subst hx; subst hy; subst ho; exact ⟨rfl, hb⟩


end Go.Proofs.Ytbcemgmfkddafaa

namespace Go.Proofs.Ytbcemgmfkddafaa
open Go.RowKit

theorem gcdI_step (x y : Int) : gcdI y (x.tmod y) = gcdI x y := by
  unfold gcdI
  rw [Int.natAbs_tmod]
  exact gcd_step x.natAbs y.natAbs
theorem gcdI_zero (x : Int) : gcdI x 0 = x.natAbs := by unfold gcdI; simp

set_option maxRecDepth 100000 in
set_option maxHeartbeats 2000000 in
/-- **commonDivisor**. -/
theorem common_any (a b : Int) (w : World) (ha : -999999999999999 ≤ a ∧ a ≤ 999999999999999) (hb : -999999999999999 ≤ b ∧ b ≤ 999999999999999) :
    Calls Try.prog 87 #[.int .i64 a, .int .i64 b] w fun e w' => e = .returned (.int .i64 ((gcdI a b : Nat) : Int)) ∧ Dr w w' := by
  go_enter Try.func87, Try.ntmps87
  go_wp2
  go_loopw [0, 1] (fun av bv wr => ∃ x y : Int, av = .int .i64 x ∧ bv = .int .i64 y ∧ (-999999999999999 ≤ x ∧ x ≤ 999999999999999) ∧ (-999999999999999 ≤ y ∧ y ≤ 999999999999999) ∧ Hid (gcdI x y = gcdI a b) ∧ Dr w wr) (fun _ bv _ => (intOf bv).natAbs)
  case atStart => exact ⟨a, b, rfl, rfl, ha, hb, rfl, Dr.refl _⟩
  case round =>
    obtain ⟨x, y, rfl, rfl, hx, hy, hg, hd⟩ := hrel
    by_cases h0 : y = 0
    · subst h0
      have hne : ((0 : Int) != 0) = false := rfl
      have HX : Hid ((x.natAbs : Int) = ((gcdI a b : Nat) : Int)) := by unfold Hid; rw [← hg.out, gcdI_zero]
      have hwn : IntKind.i64.wrap (-x) = -x := IntWalk.i64_in _ (by omega)
      have hmx := max_neg x
      go_wp2
      go_ret
      exact ⟨ret_int HX.out, hd⟩
    · have hne : (y != 0) = true := by simpa using h0
      have hyz : (y == 0) = false := by simpa using h0
      have hm : (x.tmod y).natAbs < y.natAbs := by rw [Int.natAbs_tmod]; exact Nat.mod_lt _ (by omega)
      have HG : Hid (gcdI y (x.tmod y) = gcdI a b) := by unfold Hid; rw [gcdI_step, hg.out]
      obtain ⟨r, hr⟩ : ∃ r, x.tmod y = r := ⟨_, rfl⟩
      rw [hr] at hm HG
      have hwr : IntKind.i64.wrap r = r := IntWalk.i64_in _ (by omega)
      go_wp2
      go_quiet (fail)
      go_wp2
      go_roundw
      case rel => exact ⟨y, r, rfl, by first | rfl | rw [hr], hy, by omega, HG, hd.drewN _⟩
      case measure => simp [intOf]; omega
theorem common_as (a b : Int) (g : Nat) (w : World) (ha : -999999999999999 ≤ a ∧ a ≤ 999999999999999) (hb : -999999999999999 ≤ b ∧ b ≤ 999999999999999) (hg : gcdI a b = g) :
    Calls Try.prog 87 #[.int .i64 a, .int .i64 b] w fun e w' => e = .returned (.int .i64 (g : Int)) ∧ Dr w w' := by
  subst hg; exact common_any a b w ha hb

/-- The parts of a fraction are in range. -/
def rangeB (n d : Int) : Bool := inB n (-9999999) 9999999 && inB d 1 9999999

set_option maxRecDepth 100000 in
set_option maxHeartbeats 2000000 in
/-- **partsInRange**. -/
theorem range_as (n d : Int) (v : Bool) (w : World) (hv : rangeB n d = v) :
    Calls Try.prog 75 #[.int .i64 n, .int .i64 d] w fun e w' => e = .returned (.bool v) ∧ w = w' := by
  subst hv
  by_cases h1 : -9999999 ≤ n
  · by_cases h2 : n ≤ 9999999
    · by_cases h3 : 1 ≤ d
      · by_cases h4 : d ≤ 9999999
        · have e : rangeB n d = true := by simp [rangeB, inB]; omega
          rw [e]; clear e
          go_enter Try.func75, Try.ntmps75
          go_wp2
          go_ret
          exact ⟨rfl, rfl⟩
        · have e : rangeB n d = false := by simp [rangeB, inB]; omega
          rw [e]; clear e
          go_enter Try.func75, Try.ntmps75
          go_wp2
          go_ret
          exact ⟨rfl, rfl⟩
      · have e : rangeB n d = false := by simp [rangeB, inB]; omega
        rw [e]; clear e
        go_enter Try.func75, Try.ntmps75
        go_wp2
        go_ret
        exact ⟨rfl, rfl⟩
    · have e : rangeB n d = false := by simp [rangeB, inB]; omega
      rw [e]; clear e
      go_enter Try.func75, Try.ntmps75
      go_wp2
      go_ret
      exact ⟨rfl, rfl⟩
  · have e : rangeB n d = false := by simp [rangeB, inB]; omega
    rw [e]; clear e
    go_enter Try.func75, Try.ntmps75
    go_wp2
    go_ret
    exact ⟨rfl, rfl⟩

end Go.Proofs.Ytbcemgmfkddafaa

namespace Go.Proofs.Ytbcemgmfkddafaa
open Go.RowKit

/-- What 'reduced' answers. -/
def redOk (n d : Int) : Bool := fracB (ofF n d)
def redR (n d : Int) : Fr := if redOk n d = true then ofF n d else (0, 0)
theorem redOk_range {n d : Int} (hd : 0 < d) : redOk n d = rangeB (ofF n d).1 (ofF n d).2 := by
  have h := (ofF_red (n := n) hd).2
  unfold redOk fracB rangeB
  rw [h, Bool.eq_iff_iff]
  simp

set_option maxRecDepth 100000 in
set_option maxHeartbeats 2000000 in
/-- **reduced**. -/
theorem reduced_as (n d x y : Int) (ok : Bool) (w : World) (hn : -999999999999999 ≤ n ∧ n ≤ 999999999999999) (hd : 1 ≤ d ∧ d ≤ 999999999999999) (hf : redR n d = (x, y)) (hok : redOk n d = ok) :
    Calls Try.prog 76 #[.int .i64 n, .int .i64 d] w (ToldF w x y ok) := by
  have hg := gcdI_pos (n := n) (d := d) (by omega)
  obtain ⟨g, hge⟩ : ∃ g, gcdI n d = g := ⟨_, rfl⟩
  have HGE := Lib.hid hge
  have hdn : (g : Int) ∣ n := by rw [← hge]; exact gcdI_dvd_left n d
  have hdd : (g : Int) ∣ d := by rw [← hge]; exact gcdI_dvd_right n d
  rw [hge] at hg
  have hgz : ((g : Int) == 0) = false := beq_eq_false_iff_ne.2 (by omega)
  obtain ⟨u, hu⟩ : ∃ u, (ofF n d).1 = u := ⟨_, rfl⟩
  obtain ⟨v, hv⟩ : ∃ v, (ofF n d).2 = v := ⟨_, rfl⟩
  have q1 : n / (g : Int) = u := by rw [← hu, ← hge]; rfl
  have q2 : d / (g : Int) = v := by rw [← hv, ← hge]; rfl
  have t1 : n.tdiv (g : Int) = u := by rw [← q1]; exact Int.tdiv_eq_ediv_of_dvd hdn
  have t2 : d.tdiv (g : Int) = v := by rw [← q2]; exact Int.tdiv_eq_ediv_of_dvd hdd
  have hb := ofF_bound (n := n) (d := d) (by omega)
  rw [hu, hv] at hb
  have hwu : IntKind.i64.wrap u = u := IntWalk.i64_in _ (by omega)
  have hwv : IntKind.i64.wrap v = v := IntWalk.i64_in _ (by omega)
  have hR : rangeB u v = ok := by rw [← hok, redOk_range (by omega), hu, hv]
  have HR := Lib.hid hR
  have HF : Hid ((x, y) = if ok = true then (u, v) else (0, 0)) := by unfold Hid; rw [← hf, redR, hok, ← hu, ← hv]
  have T0 := Lib.hid (Two.new w 0 0 38)
  have B0 := Lib.hid ((Below.refl _ w).alloc (Nat.le_refl _) (.cells #[.int .i64 0, .int .i64 0] 38))
  clear hdn hdd hge hu hv hb hR hf hok
  cases ok
  · obtain ⟨rfl, rfl⟩ := Prod.ext_iff.1 HF.out
    go_enter Try.func76, Try.ntmps76
    go_wp2_with fail
    refine (common_as n d g _ (by omega) (by omega) HGE.out).mono ?_
    rintro e w1 ⟨rfl, hd1⟩
    have T1 := Lib.hid (T0.out.below (hd1.below _))
    have B1 := Lib.hid (below_on B0.out (hd1.below _))
    clear hd1
    go_wp2
    go_quiet (first | (go_at_call 75; exact quiet_same (range_as u v false _ HR.out)))
    have T2 := Lib.hid (T1.out.below (below_drewN _ _ nq))
    have B2 := Lib.hid (below_on B1.out (below_drewN _ _ nq))
    obtain ⟨lr, r0, r9, g0, g9⟩ := T2.out
    have k0 := Two.set0 T2.out (.int .i64 0)
    have k9 := Two.set1 T2.out (.int .i64 0) (.int .i64 0)
    go_wp2
    refine bodyPost_ret (v := .tuple #[.agg #[.int .i64 0, .int .i64 0], .bool false]) (by simp [results, Try.results76, go_sem, k0, k9]) rfl ?_
    exact told_f rfl rfl rfl (below_set2 B2.out (Nat.le_refl _) _ _)
  · obtain ⟨rfl, rfl⟩ := Prod.ext_iff.1 HF.out
    go_enter Try.func76, Try.ntmps76
    go_wp2_with fail
    refine (common_as n d g _ (by omega) (by omega) HGE.out).mono ?_
    rintro e w1 ⟨rfl, hd1⟩
    have T1 := Lib.hid (T0.out.below (hd1.below _))
    have B1 := Lib.hid (below_on B0.out (hd1.below _))
    clear hd1
    go_wp2
    go_quiet (first | (go_at_call 75; exact quiet_same (range_as x y true _ HR.out)))
    have T2 := Lib.hid (T1.out.below (below_drewN _ _ nq))
    have B2 := Lib.hid (below_on B1.out (below_drewN _ _ nq))
    obtain ⟨lr, r0, r9, g0, g9⟩ := T1.out
    have T3 := Lib.hid (T1.out.below (below_drewN _ _ (nq + 1)))
    have B3 := Lib.hid (below_on B1.out (below_drewN _ _ (nq + 1)))
    go_wp2
    go_region
    all_goals
      have k0 := Two.set0 T3.out (.int .i64 x)
      have k9 := Two.set1 T3.out (.int .i64 x) (.int .i64 y)
      go_wp2
      refine bodyPost_ret (v := .tuple #[.agg #[.int .i64 x, .int .i64 y], .bool true]) (by simp [results, Try.results76, go_sem, k0, k9]) rfl ?_
      exact told_f rfl rfl rfl (below_set2 B3.out (Nat.le_refl _) _ _)

set_option maxRecDepth 100000 in
set_option maxHeartbeats 2000000 in
/-- **impl.FracOf**. -/
theorem implFracOf_as (n d x y : Int) (ok : Bool) (w : World) (hf : ofR n d = (x, y)) (hok : ofOk n d = ok) :
    Calls Try.prog 61 #[.int .i64 n, .int .i64 d] w (ToldF w x y ok) := by
  have HOK : Hid (rangeB n d = ok) := hok
  have T0 := Lib.hid (Two.new w 0 0 38)
  have B0 := Lib.hid ((Below.refl _ w).alloc (Nat.le_refl _) (.cells #[.int .i64 0, .int .i64 0] 38))
  cases ok
  · rw [ofR_no hok] at hf
    obtain ⟨rfl, rfl⟩ := Prod.ext_iff.1 hf
    clear hok hf
    go_enter Try.func61, Try.ntmps61
    go_wp2_with fail
    refine (range_as n d false _ HOK.out).mono ?_
    rintro e w1 ⟨rfl, rfl⟩
    go_wp2
    go_returns
    exact told_f rfl rfl rfl (by go_grown)
  · obtain ⟨b1, b2⟩ := (ofOk_iff n d).1 hok
    have hr : redOk n d = true := by
      unfold redOk
      have := (of_valid hok).1
      rwa [ofR_yes hok] at this
    have HR : Hid (redR n d = (x, y)) := by unfold Hid redR; rw [if_pos hr, ← hf, ofR_yes hok]
    have HK := Lib.hid hr
    clear hok hf hr
    go_enter Try.func61, Try.ntmps61
    go_wp2_with fail
    refine (range_as n d true _ HOK.out).mono ?_
    rintro e w1 ⟨rfl, rfl⟩
    go_wp2_with fail
    refine (reduced_as n d x y true _ (by omega) (by omega) HR.out HK.out).mono ?_
    rintro e w1 ⟨rfl, hb⟩
    have T1 := Lib.hid (T0.out.below hb)
    have B1 := Lib.hid (below_on B0.out hb)
    clear hb
    obtain ⟨lr, r0, r9, g0, g9⟩ := T1.out
    have k0 := Two.set0 T1.out (.int .i64 x)
    have k9 := Two.set1 T1.out (.int .i64 x) (.int .i64 y)
    go_wp2
    refine bodyPost_ret (v := .tuple #[.agg #[.int .i64 x, .int .i64 y], .bool true]) (by simp [results, Try.results61, go_sem, k0, k9]) rfl ?_
    exact told_f rfl rfl rfl (below_set2 B1.out (Nat.le_refl _) _ _)

end Go.Proofs.Ytbcemgmfkddafaa

namespace Go.Proofs.Ytbcemgmfkddafaa
open Go.RowKit

attribute [local go_sem] Oper.semAt_some

set_option maxHeartbeats 1000000 in
/-- The square of a number of votes. -/
theorem sqTell_as (d v : Int) (w : World) (hd : 0 ≤ d ∧ d ≤ 99) (hv : d * d = v) :
    Calls Try.prog 60 #[.int .i64 d] w fun e w' => e = .returned (.int .i64 v) ∧ w = w' := by
  have hs := two_mul hd hd
  have hw : IntKind.i64.wrap (d * d) = d * d := IntWalk.i64_in _ (by omega)
  subst hv
  clear hs
  go_enter Try.func60, Try.ntmps60
  go_wp2
  go_ret
  exact ⟨by first | rfl | (exact ret_int (by omega)), rfl⟩

theorem sqv_in {z : Int} (h : 0 ≤ z ∧ z ≤ 99) : 0 ≤ z * z ∧ z * z ≤ 9801 := by have := two_mul h h; omega
theorem sqV_bound {ds : List Int} {n : Nat} (h : ∀ x : Nat, x < n → 0 ≤ ds[x]?.getD 0 ∧ ds[x]?.getD 0 ≤ 99) : ∀ k, k ≤ n → k ≤ ds.length → 0 ≤ sqL (ds.take k) ∧ sqL (ds.take k) ≤ 9801 * (k : Int)
  | 0, _, _ => by simp [sqL, totI_nil]
  | k + 1, h1, h2 => by
    have ih := sqV_bound h k (by omega) (by omega)
    have hd := sqv_in (h k (by omega))
    rw [sq_take (by omega)]
    omega
set_option maxHeartbeats 2000000 in
/-- **sum**, of the squares of votes. -/
theorem sumV_as (a : Option Addr) (len cap : Nat) (ds : List Int) (s : Int) (w : World) (h : IsInts w a len cap ds) (hl : len ≤ 5) (hb : ∀ x : Nat, x < len → 0 ≤ ds[x]?.getD 0 ∧ ds[x]?.getD 0 ≤ 99) (hs : sqL ds = s) :
    Calls Try.prog 59 #[.slice a len cap, .func (.func 60) #[] #[]] w fun e w' => e = .returned (.int .i64 s) ∧ w = w' := by
  obtain ⟨h1, h2, h3, h4⟩ := h
  have H1 := Lib.hid h1
  have H4 := Lib.hid h4
  have HB := Lib.hid hb
  have HS := Lib.hid hs
  clear h1 h4 hb hs
  go_enter Try.func59, Try.ntmps59
  go_wp2
  go_loop [5, 7, 10] (fun nv _ iv => ∃ (i : Nat) (t : Int), i ≤ len ∧ iv = .int .i64 (i : Int) ∧ nv = .int .i64 t ∧ Hid (sqL (ds.take i) = t)) (fun _ _ iv => len - (intOf iv).toNat)
  case atStart => exact ⟨0, 0, Nat.zero_le _, rfl, rfl, by unfold Hid; simp [sqL, totI_nil]⟩
  case round =>
    obtain ⟨i, t, hil, rfl, rfl, hT⟩ := hrel
    by_cases hlt : i < len
    · obtain ⟨b, off, rfl, hb, hc⟩ := H4.out (by omega)
      have ci := hc i hlt
      have htb := sqV_bound HB.out i (by omega) (by rw [H1.out]; omega)
      rw [hT.out] at htb
      have hzb := HB.out i hlt
      have HT2 : Hid (sqL (ds.take (i + 1)) = t + (ds[i]?.getD 0) * (ds[i]?.getD 0)) := by rw [Hid, sq_take (by rw [H1.out]; exact hlt), hT.out]
      obtain ⟨z, hz⟩ : ∃ z, ds[i]?.getD 0 = z := ⟨_, rfl⟩
      rw [hz] at ci hzb HT2
      obtain ⟨u, hu⟩ : ∃ u, z * z = u := ⟨_, rfl⟩
      have hub := sqv_in hzb
      rw [hu] at HT2 hub
      have HU := Lib.hid hu
      clear hc hz hu
      go_wp2_with fail
      refine (sqTell_as z u _ hzb HU.out).mono ?_
      rintro e w1 ⟨rfl, rfl⟩
      go_wp2
      go_round
      case rel => exact ⟨i + 1, t + u, by omega, by go_num, rfl, HT2⟩
      case measure => simp [intOf]; omega
    · obtain rfl : i = len := by omega
      have HE : Hid (t = s) := by rw [Hid, ← HS.out, ← hT.out, List.take_of_length_le (by rw [H1.out]; exact Nat.le_refl _)]
      go_wp2
      go_ret
      exact ⟨ret_int HE.out, rfl⟩

theorem par_of {vs : List Int} (h : voteB vs = true) : ofR (totI vs * totI vs) (sqL vs) = partF vs := ofR_yes (par_ok h)

set_option maxHeartbeats 2000000 in
/-- **impl.ShareParties**. -/
theorem implPar_as (a : Option Addr) (n cap : Nat) (vs : List Int) (x y : Int) (v : Bool) (w : World) (h : IsInts w a n cap vs) (hv : voteB vs = v) (hf : parR vs = (x, y)) :
    Calls Try.prog 29 #[.slice a n cap] w (ToldF w x y v) := by
  have HI := Lib.hid h
  have B0 := Lib.hid ((Below.refl _ w).alloc (Nat.le_refl _) (.cells #[.int .i64 0, .int .i64 0] 38))
  have N0 := Lib.hid (Two.new w 0 0 38)
  cases v
  · have e : x = 0 ∧ y = 0 := by
      rw [parR, if_neg (by rw [hv]; decide)] at hf
      injection hf with e1 e2
      exact ⟨e1.symm, e2.symm⟩
    obtain ⟨rfl, rfl⟩ := e
    have V1 := Lib.hid hv
    clear h hv hf
    go_enter Try.func29, Try.ntmps29
    go_wp2_with fail
    obtain ⟨w1, hw1⟩ : ∃ w1, w.alloc (.cells #[.int .i64 0, .int .i64 0] 38) = w1 := ⟨_, rfl⟩
    rw [hw1] at B0 N0 ⊢
    refine (votes_as _ n cap vs false _ (HI.out.below B0.out) V1.out).mono ?_
    rintro e w2 ⟨rfl, rfl⟩
    obtain ⟨p, hp⟩ : ∃ p, w.heap.size = p := ⟨_, rfl⟩
    rw [hp] at N0 ⊢
    obtain ⟨lr, r0, r9, g0, g9⟩ := N0.out
    have k0 := Two.set0 N0.out (.int .i64 0)
    have k9 := Two.set1 N0.out (.int .i64 0) (.int .i64 0)
    go_wp2
    refine bodyPost_ret (v := .tuple #[.agg #[.int .i64 0, .int .i64 0], .bool false]) (by simp [results, Try.results29, go_sem, k0, k9]) rfl ?_
    exact ⟨rfl, below_set2 B0.out (by omega) _ _⟩
  · obtain ⟨⟨x1, x2, x3⟩, x4⟩ := (voteB_iff vs).1 hv
    have hnv := h.1
    have hq := sq_pos hv
    have hok := par_ok hv
    have hof := par_of hv
    rw [show partF vs = (x, y) by rw [← hf, parR, if_pos hv]] at hof
    rw [hnv] at x1 x2 x3
    have HX1 : Hid (∀ z : Nat, z < n → 0 ≤ vs[z]?.getD 0 ∧ vs[z]?.getD 0 ≤ 100000) := fun z hz => by have := toB_at x1 hz; omega
    have HX2 : Hid (∀ z : Nat, z < n → 0 ≤ vs[z]?.getD 0 ∧ vs[z]?.getD 0 ≤ 99) := fun z hz => toB_at x1 hz
    have V1 := Lib.hid hv
    obtain ⟨T, hT⟩ : ∃ T, totI vs = T := ⟨_, rfl⟩
    obtain ⟨s, hs⟩ : ∃ s, sqL vs = s := ⟨_, rfl⟩
    rw [hT, hs] at hq hok hof
    obtain ⟨q, hqq⟩ : ∃ q, T * T = q := ⟨_, rfl⟩
    rw [hqq] at hq hok hof
    have hw : IntKind.i64.wrap (T * T) = q := by rw [hqq]; exact IntWalk.i64_in _ (by omega)
    have HT := Lib.hid hT
    have HS := Lib.hid hs
    have HO := Lib.hid hok
    have HF := Lib.hid hof
    clear h hv hf x1 hT hs hok hof hnv hqq
    go_enter Try.func29, Try.ntmps29
    go_wp2_with fail
    obtain ⟨w1, hw1⟩ : ∃ w1, w.alloc (.cells #[.int .i64 0, .int .i64 0] 38) = w1 := ⟨_, rfl⟩
    rw [hw1] at B0 N0 ⊢
    have I1 := Lib.hid (HI.out.below B0.out)
    refine (votes_as _ n cap vs true _ I1.out V1.out).mono ?_
    rintro e w2 ⟨rfl, rfl⟩
    go_wp2_with fail
    refine (implSum_as _ n cap vs T _ I1.out (by omega) HX1.out HT.out).mono ?_
    rintro e w2 ⟨rfl, rfl⟩
    go_wp2_with fail
    refine (sumV_as _ n cap vs s _ I1.out (by omega) HX2.out HS.out).mono ?_
    rintro e w2 ⟨rfl, rfl⟩
    go_wp2_with fail
    refine (implFracOf_as q s x y true _ HF.out HO.out).mono ?_
    rintro e w2 ⟨rfl, hb⟩
    obtain ⟨p, hp⟩ : ∃ p, w.heap.size = p := ⟨_, rfl⟩
    have hpw : p < w1.heap.size := by rw [← hp]; exact N0.out.lt
    have N2 := Lib.hid (N0.out.below hb)
    have B2 := Lib.hid (B0.out.trans (hb.mono (by omega)))
    clear hb N0 B0 I1
    rw [hp] at N2 ⊢
    obtain ⟨lr, r0, r9, g0, g9⟩ := N2.out
    have k0 := Two.set0 N2.out (.int .i64 x)
    have k9 := Two.set1 N2.out (.int .i64 x) (.int .i64 y)
    go_wp2
    refine bodyPost_ret (v := .tuple #[.agg #[.int .i64 x, .int .i64 y], .bool true]) (by simp [results, Try.results29, go_sem, k0, k9]) rfl ?_
    exact ⟨rfl, below_set2 B2.out (by omega) _ _⟩

theorem spec_of {vs : List Int} (h : voteB vs = true) {x y : Int} (hf : parR vs = (x, y)) : ofF (totI vs * totI vs) (sqL vs) = (x, y) := by
  rw [parR, if_pos h] at hf
  exact hf

set_option maxRecDepth 100000 in
set_option maxHeartbeats 4000000 in
/-- **spec.ShareParties**. -/
theorem specPar_as (a : Option Addr) (n cap : Nat) (vs : List Int) (x y : Int) (v : Bool) (w : World) (h : IsInts w a n cap vs) (hv : voteB vs = v) (hf : parR vs = (x, y)) :
    Calls Try.prog 30 #[.slice a n cap] w (ToldF w x y v) := by
  have HI := Lib.hid h
  have B0 := Lib.hid ((Below.refl _ w).alloc (Nat.le_refl _) (.cells #[.int .i64 0, .int .i64 0] 38))
  have N0 := Lib.hid (Two.new w 0 0 38)
  cases v
  · have e : x = 0 ∧ y = 0 := by
      rw [parR, if_neg (by rw [hv]; decide)] at hf
      injection hf with e1 e2
      exact ⟨e1.symm, e2.symm⟩
    obtain ⟨rfl, rfl⟩ := e
    have V1 := Lib.hid hv
    clear h hv hf
    go_enter Try.func30, Try.ntmps30
    go_wp2_with fail
    obtain ⟨w1, hw1⟩ : ∃ w1, w.alloc (.cells #[.int .i64 0, .int .i64 0] 38) = w1 := ⟨_, rfl⟩
    rw [hw1] at B0 N0 ⊢
    refine (specVotes_as _ n cap vs false _ (HI.out.below B0.out) V1.out).mono ?_
    rintro e w2 ⟨rfl, rfl⟩
    obtain ⟨p, hp⟩ : ∃ p, w.heap.size = p := ⟨_, rfl⟩
    rw [hp] at N0 ⊢
    obtain ⟨lr, r0, r9, g0, g9⟩ := N0.out
    have k0 := Two.set0 N0.out (.int .i64 0)
    have k9 := Two.set1 N0.out (.int .i64 0) (.int .i64 0)
    go_wp2
    refine bodyPost_ret (v := .tuple #[.agg #[.int .i64 0, .int .i64 0], .bool false]) (by simp [results, Try.results30, go_sem, k0, k9]) rfl ?_
    exact ⟨rfl, below_set2 B0.out (by omega) _ _⟩
  · obtain ⟨⟨x1, x2, x3⟩, x4⟩ := (voteB_iff vs).1 hv
    have hnv := h.1
    have hq := sq_pos hv
    have hof := spec_of hv hf
    rw [hnv] at x1 x2 x3
    have HX1 : Hid (∀ z : Nat, z < n → 0 ≤ vs[z]?.getD 0 ∧ vs[z]?.getD 0 ≤ 100000) := fun z hz => by have := toB_at x1 hz; omega
    have HX2 : Hid (∀ z : Nat, z < n → 0 ≤ vs[z]?.getD 0 ∧ vs[z]?.getD 0 ≤ 99) := fun z hz => toB_at x1 hz
    have V1 := Lib.hid hv
    have HNV := Lib.hid hnv
    obtain ⟨T, hT⟩ : ∃ T, totI vs = T := ⟨_, rfl⟩
    obtain ⟨s, hs⟩ : ∃ s, sqL vs = s := ⟨_, rfl⟩
    rw [hT, hs] at hq hof
    obtain ⟨q, hqq⟩ : ∃ q, T * T = q := ⟨_, rfl⟩
    rw [hqq] at hq hof
    have hw : IntKind.i64.wrap (T * T) = q := by rw [hqq]; exact IntWalk.i64_in _ (by omega)
    have HT := Lib.hid hT
    have HS := Lib.hid hs
    have HF := Lib.hid hof
    clear h hv hf x1 hT hs hof hnv hqq
    go_enter Try.func30, Try.ntmps30
    go_wp2_with fail
    obtain ⟨w1, hw1⟩ : ∃ w1, w.alloc (.cells #[.int .i64 0, .int .i64 0] 38) = w1 := ⟨_, rfl⟩
    rw [hw1] at B0 N0 ⊢
    have I1 := Lib.hid (HI.out.below B0.out)
    obtain ⟨p, hp⟩ : ∃ p, w.heap.size = p := ⟨_, rfl⟩
    have hpw : p < w1.heap.size := by rw [← hp]; exact N0.out.lt
    have hpp : w.heap.size ≤ p := by omega
    rw [hp] at N0 ⊢
    refine (specVotes_as _ n cap vs true _ I1.out V1.out).mono ?_
    rintro e w2 ⟨rfl, rfl⟩
    obtain ⟨b, off, rfl, hb, hc⟩ := I1.out.2.2.2 (by omega)
    have HC := Lib.hid hc
    clear hc
    go_wp2
    go_loopw [4, 5] (fun sv iv wr => ∃ (i : Nat) (t : Int), i ≤ n ∧ iv = .int .i64 (i : Int) ∧ sv = .int .i64 t ∧ Hid (sqL (vs.take i) = t) ∧ Hid (Dr w1 wr)) (fun _ iv _ => n - (intOf iv).toNat)
    case atStart => exact ⟨0, 0, Nat.zero_le _, rfl, rfl, by simp [Hid, sqL, totI_nil], Dr.refl _⟩
    case round =>
      obtain ⟨i, t, hil, rfl, rfl, hTT, hD⟩ := hrel
      by_cases hlt : i < n
      · have ci := ((hD.out.below w1.heap.size).cell (p := ⟨b, off + i, none⟩) hb).trans (HC.out i hlt)
        have hii : (i : Int) < (n : Int) := by omega
        have htb := sqV_bound HX2.out i (by omega) (by rw [HNV.out]; omega)
        rw [hTT.out] at htb
        have hzb := HX2.out i hlt
        have HT2 : Hid (sqL (vs.take (i + 1)) = t + (vs[i]?.getD 0) * (vs[i]?.getD 0)) := by rw [Hid, sq_take (by rw [HNV.out]; exact hlt), hTT.out]
        obtain ⟨z, hz⟩ : ∃ z, vs[i]?.getD 0 = z := ⟨_, rfl⟩
        rw [hz] at ci hzb HT2
        obtain ⟨u, hu⟩ : ∃ u, z * z = u := ⟨_, rfl⟩
        have hub := sqv_in hzb
        rw [hu] at HT2 hub
        have hw0 : IntKind.i64.wrap (z * z) = u := by rw [hu]; exact IntWalk.i64_in _ (by omega)
        have hw1' : IntKind.i64.wrap (t + u) = t + u := IntWalk.i64_in _ (by omega)
        clear hz hu
        go_wp2_with fail
        go_quiet (fail)
        go_wp2
        go_roundw
        case rel => exact ⟨i + 1, t + u, by omega, by go_num, rfl, HT2, hD.out.drewN _⟩
        case measure => simp [intOf]; omega
      · obtain rfl : i = n := by omega
        obtain rfl : t = s := by rw [← HS.out, ← hTT.out, List.take_of_length_le (by rw [HNV.out]; exact Nat.le_refl _)]
        have hb := hD.out.below w1.heap.size
        have IR := Lib.hid (I1.out.below hb)
        have N2 := Lib.hid (N0.out.below hb)
        have B2 := Lib.hid (B0.out.trans (hb.mono (by omega)))
        clear hb N0 B0 I1 hD hTT
        go_wp2_with fail
        refine (sum22_as _ i cap vs T _ IR.out (by omega) HX1.out HT.out).mono ?_
        rintro e w2 ⟨rfl, rfl⟩
        go_wp2_with fail
        refine (l5Of_as q t x y _ (by omega) (by omega) HF.out).mono ?_
        rintro e w2 ⟨rfl, hb⟩
        have N3 := Lib.hid (N2.out.below hb)
        have B3 := Lib.hid (B2.out.trans (hb.mono B2.out.size))
        clear hb N2 B2 IR
        obtain ⟨lr, r0, r9, g0, g9⟩ := N3.out
        have k0 := Two.set0 N3.out (.int .i64 x)
        have k9 := Two.set1 N3.out (.int .i64 x) (.int .i64 y)
        go_wp2
        refine bodyPost_ret (v := .tuple #[.agg #[.int .i64 x, .int .i64 y], .bool true]) (by simp [results, Try.results30, go_sem, k0, k9]) rfl ?_
        exact ⟨rfl, below_set2 B3.out (by omega) _ _⟩

end Go.Proofs.Ytbcemgmfkddafaa

namespace Go.Proofs.Ytbcemgmfkddafaa
open Go.RowKit

end Go.Proofs.Ytbcemgmfkddafaa

namespace Go.Proofs.Ytbcemgmfkddafaa
open Go.RowKit

def eqF (a1 a2 b1 b2 : Int) : Bool := decide (a1 = b1) && decide (a2 = b2)
set_option maxRecDepth 100000 in
set_option maxHeartbeats 2000000 in
/-- **eqFrac**. -/
theorem eqFrac_as (a1 a2 b1 b2 : Int) (v : Bool) (w : World) (hv : eqF a1 a2 b1 b2 = v) :
    Calls Try.prog 36 #[.agg #[.int .i64 a1, .int .i64 a2], .agg #[.int .i64 b1, .int .i64 b2]] w fun e w' => e = .returned (.bool v) ∧ Below w.heap.size w w' := by
  subst hv
  by_cases h1 : a1 = b1
  · have n1 : (a1 != b1) = false := by simpa using h1
    by_cases h2 : a2 = b2
    · have n2 : (a2 != b2) = false := by simpa using h2
      have e : eqF a1 a2 b1 b2 = true := by simp [eqF, h1, h2]
      rw [e]; clear e h1 h2
      go_enter Try.func36, Try.ntmps36
      go_wp2
      go_ret
      exact ⟨rfl, by go_grown⟩
    · have n2 : (a2 != b2) = true := by simpa using h2
      have e : eqF a1 a2 b1 b2 = false := by simp [eqF, h2]
      rw [e]; clear e h1 h2
      go_enter Try.func36, Try.ntmps36
      go_wp2
      go_ret
      exact ⟨rfl, by go_grown⟩
  · have n1 : (a1 != b1) = true := by simpa using h1
    have e : eqF a1 a2 b1 b2 = false := by simp [eqF, h1]
    rw [e]; clear e h1
    go_enter Try.func36, Try.ntmps36
    go_wp2
    go_ret
    exact ⟨rfl, by go_grown⟩

end Go.Proofs.Ytbcemgmfkddafaa

namespace Go.Proofs.Ytbcemgmfkddafaa
open Go.RowKit

theorem frac_under : Try.prog.underlying 38 = some (.struct (Try.prog.fieldsOf 38)) := by kernel_rfl
theorem frac_stood : Try.prog.stoodInHeld 38 = false := by kernel_rfl
theorem frac_guard : Try.prog.eqGuardType Try.prog.depth 38 = false := by kernel_rfl

theorem run_neqF (a1 a2 b1 b2 : Int) (v : Bool) (hv : (!eqF a1 a2 b1 b2) = v) (w : World) : (binOp .neq 38 (.agg #[.int .i64 a1, .int .i64 a2]) (.agg #[.int .i64 b1, .int .i64 b2])).run Try.prog w = .ok (.bool v) w := by
  subst hv
  rw [run_neq_struct, run_equalIn_agg _ _ _ _ _ frac_under frac_stood]
  simp [go_sem, Program.fieldsOf, Try.underlying38, Try.underlying3, Op.eqFields, eqF]
  by_cases h : a1 = b1
  · subst h
    by_cases h2 : a2 = b2 <;> simp [h2]
  · simp [h]
theorem run_eqF (a1 a2 b1 b2 : Int) (v : Bool) (hv : eqF a1 a2 b1 b2 = v) (w : World) : (binOp .eql 38 (.agg #[.int .i64 a1, .int .i64 a2]) (.agg #[.int .i64 b1, .int .i64 b2])).run Try.prog w = .ok (.bool v) w := by
  subst hv
  rw [run_eql_struct, run_equalIn_agg _ _ _ _ _ frac_under frac_stood]
  simp [go_sem, Program.fieldsOf, Try.underlying38, Try.underlying3, Op.eqFields, eqF]
  by_cases h : a1 = b1
  · subst h
    by_cases h2 : a2 = b2 <;> simp [h2]
  · simp [h]
theorem run_guardF (op : BinOp) (x y : Operand) (xs ys : Array Value) (w : World) : (eqGuard op 38 x y (.agg xs) (.agg ys)).run Try.prog w = .ok () w := run_eqGuard_agg w op _ x y xs ys frac_guard
theorem eqF_self (x y : Int) : eqF x y x y = true := by simp [eqF]
theorem eqF_of {a b : Fr} (h : a = b) : eqF a.1 a.2 b.1 b.2 = true := by subst h; simp [eqF]
theorem eqF_iff (a1 a2 b1 b2 : Int) : eqF a1 a2 b1 b2 = decide ((a1, a2) = (b1, b2)) := by
  rw [Bool.eq_iff_iff]; simp [eqF]
end Go.Proofs.Ytbcemgmfkddafaa
