/-
  DrawFracOf: two drawn numbers; nothing is written that was there. No condition but what the theorem says.
-/
import Derived.Test.YtoancpdiilofmaaArr
namespace Go.Proofs.Ytoancpdiilofmaa
open Go.RowKit

/-- 9999999, -9999999, 10000000 or 0. -/
def rA (d : Nat) : Int := if d = 0 then 9999999 else if d = 1 then -9999999 else if d = 2 then 10000000 else 0
theorem rA_get (d : Nat) (h : (d : Int) < 4) : ([Value.int .i64 9999999, .int .i64 (-9999999), .int .i64 10000000, .int .i64 0] : List Value)[d]? = some (.int .i64 (rA d)) := by
  have e : d = 0 ∨ d = 1 ∨ d = 2 ∨ d = 3 := by omega
  rcases e with rfl | rfl | rfl | rfl <;> rfl
theorem rA_range (d : Nat) : -10000000 ≤ rA d ∧ rA d ≤ 10000000 := by unfold rA; split <;> (try split) <;> (try split) <;> omega
/-- 0, -1, 9999999 or 10000000. -/
def rB (d : Nat) : Int := if d = 0 then 0 else if d = 1 then -1 else if d = 2 then 9999999 else 10000000
theorem rB_get (d : Nat) (h : (d : Int) < 4) : ([Value.int .i64 0, .int .i64 (-1), .int .i64 9999999, .int .i64 10000000] : List Value)[d]? = some (.int .i64 (rB d)) := by
  have e : d = 0 ∨ d = 1 ∨ d = 2 ∨ d = 3 := by omega
  rcases e with rfl | rfl | rfl | rfl <;> rfl
theorem rB_range (d : Nat) : -10000000 ≤ rB d ∧ rB d ≤ 10000000 := by unfold rB; split <;> (try split) <;> (try split) <;> omega

/-- What the draw of two numbers says to its caller. -/
def DrawnNum (w : World) (e : Ending) (w' : World) : Prop := ∃ x y : Int, e = .returned (.tuple #[.int .i64 x, .int .i64 y]) ∧ (-10000000 ≤ x ∧ x ≤ 10000000) ∧ (-10000000 ≤ y ∧ y ≤ 10000000) ∧ Below w.heap.size w w'

set_option maxRecDepth 100000 in
set_option maxHeartbeats 8000000 in
/-- **DrawFracOf**. -/
theorem drawFracOf_any (a : Option Addr) (len cap : Nat) (bs : List Int) (w : World) (h : IsBytes w a len bs) (hcap : len ≤ cap) (hl : len ≤ 1048600) :
    Calls Try.prog 16 #[.slice a len cap] w (DrawnNum w) := by
  have H := Lib.hid h; clear h
  go_enter Try.func16, Try.ntmps16
  go_wp2_with fail
  refine (open_any a len cap bs _ H.out hcap hl).mono ?_
  rintro e w1 ⟨rfl, hr, hb⟩
  have R1 := Lib.hid hr
  have B1 := Lib.hid hb
  have hw1 : w.heap.size < w1.heap.size := hr.1
  clear hr hb
  go_wp2_with fail
  refine (pick_any w.heap.size 0 200 _ R1.out (by omega) (by omega) (by omega)).mono ?_
  rintro e w2 ⟨n, rfl, hn, hr, hs⟩
  have R2 := Lib.hid hr
  have B2 := Lib.hid (B1.out.trans (hs.below (Nat.le_refl _) (Nat.le_of_lt hw1)))
  have hw2 : w.heap.size < w2.heap.size := hr.1
  clear hr hs R1 B1
  have hwn : IntKind.i64.wrap ((n : Int) - 80) = (n : Int) - 80 := IntWalk.i64_in _ (by omega)
  go_wp2_with fail
  refine (pick_any w.heap.size (0 + 1) 12 _ R2.out (by omega) (by omega) (by omega)).mono ?_
  rintro e w3 ⟨m, rfl, hm, hr, hs⟩
  have R3 := Lib.hid hr
  have B3 := Lib.hid (B2.out.trans (hs.below (Nat.le_refl _) (Nat.le_of_lt hw2)))
  have hw3 : w.heap.size < w3.heap.size := hr.1
  clear hr hs R2 B2
  cases hm0 : ((m : Int) == 0)
  · go_wp2_with fail
    refine (pick_any w.heap.size (0 + 1 + 1) 60 _ R3.out (by omega) (by omega) (by omega)).mono ?_
    rintro e w4 ⟨d, rfl, hd, hr, hs⟩
    have B4 := Lib.hid (B3.out.trans (hs.below (Nat.le_refl _) (Nat.le_of_lt hw3)))
    clear hr hs R3 B3
    have hwd : IntKind.i64.wrap (1 + (d : Int)) = 1 + (d : Int) := IntWalk.i64_in _ (by omega)
    go_wp2
    go_ret2
    exact ⟨_, _, rfl, by omega, by omega, B4.out⟩
  · have hne : w3.heap.size ≠ w.heap.size := by omega
    have hne1 : w3.heap.size + 1 ≠ w.heap.size := by omega
    go_wp2_with fail
    go_region_law (first
        | (have hR3 := R4.out; go_simp; go_at_call 34; refine (pick_any w.heap.size (0 + 1 + 1 + 1) 4 _ ?_ (by omega) (by omega) (by omega)).mono ?_; (first | exact hR3 | exact hR3.alloc _ | exact (hR3.alloc _).alloc _); rintro e w5 ⟨d, rfl, hd, hr4, hs4⟩; clear hR3; have hgd := rB_get d hd; (first
            | (have S5 := Lib.hid (S4.out.trans hs4); have hz1 := (step_same hs4 L3b.out hne).trans (A3b.out c); have hz2 := (step_same hs4 L3b.out hne).trans (A3b.out d); have hz3 := (step_same hs4 M3b.out hne1).trans (C3b.out c); have hz4 := (step_same hs4 M3b.out hne1).trans (C3b.out d); clear hr4 hs4)
            | (have S5 := Lib.hid (S4.out.trans hs4); have hz1 := (step_same hs4 L3.out hne).trans (A3.out c); have hz2 := (step_same hs4 L3.out hne).trans (A3.out d); have hL4 := Nat.lt_of_lt_of_le L3.out hs4.size; clear hr4 hs4)
            | (have hz1 := (step_same (step_one hs4) L3.out hne).trans (A3.out c); have hz2 := (step_same (step_one hs4) L3.out hne).trans (A3.out d); have hz3 := arr_a hs4 (not_new S4.out hw3) c; have hz4 := arr_a hs4 (not_new S4.out hw3) d; have S5 := Lib.hid (S4.out.trans (step_one hs4)); clear hr4 hs4)
            | (have hz1 := arr_b hs4 (not_new S4.out hw3) c; have hz2 := arr_b hs4 (not_new S4.out hw3) d; have hz3 := arr_c hs4 (not_new1 S4.out hw3) c; have hz4 := arr_c hs4 (not_new1 S4.out hw3) d; have S5 := Lib.hid (S4.out.trans (step_two hs4)); clear hr4 hs4)
            | (have hz1 := arr_a hs4 (not_new S4.out hw3) c; have hz2 := arr_a hs4 (not_new S4.out hw3) d; have hL4 := one_lt hs4; have S5 := Lib.hid (S4.out.trans (step_one hs4)); clear hr4 hs4)
            | (have S5 := Lib.hid (S4.out.trans hs4); clear hr4 hs4)))
        | (go_simp; go_at_call 34; refine (pick_any w.heap.size (0 + 1 + 1) 4 _ ?_ (by omega) (by omega) (by omega)).mono ?_; (first | exact R3.out | exact R3.out.drew | exact R3.out.alloc_drew _ | exact R3.out.alloc2_drew _ _); rintro e w4 ⟨c, rfl, hc, hr3, hs3⟩; have R4 := Lib.hid hr3; have hgc := rA_get c hc; (first
            | (have hs := Step.of_drew hs3; have A3b := Lib.hid (fun d => arr_b hs hne d); have C3b := Lib.hid (fun d => arr_c hs hne1 d); have L3b := Lib.hid (Nat.lt_of_succ_lt (two_lt hs)); have M3b := Lib.hid (two_lt hs); have S4 := Lib.hid (step_two hs); have hy1 := A3b.out c; have hy2 := C3b.out c; clear hr3 hs3 hs)
            | (have hs := Step.of_drew hs3; have A3 := Lib.hid (fun d => arr_a hs hne d); have L3 := Lib.hid (one_lt hs); have hL3 := L3.out; have S4 := Lib.hid (step_one hs); have hy1 := A3.out c; clear hr3 hs3 hs)
            | (have S4 := Lib.hid (Step.of_drew hs3); clear hr3 hs3))))
    all_goals
      have B5 := B3.out.trans (S5.out.below (Nat.le_refl _) (Nat.le_of_lt hw3))
      have hB5 := B5.size
      try clear hz1
      try clear hz2
      try clear hz3
      try clear hz4
      try clear hy1
      try clear hy2
      clear hgc hgd
      go_wp2
      go_ret2
      first
        | exact ⟨_, _, rfl, rA_range _, rB_range _, B5⟩
        | exact ⟨_, _, rfl, rA_range _, rB_range _, B5.alloc hB5 _⟩
        | exact ⟨_, _, rfl, rA_range _, rB_range _, (B5.alloc hB5 _).alloc (Nat.le_trans hB5 (le_alloc _ _)) _⟩

end Go.Proofs.Ytoancpdiilofmaa
