/-
  Drawn numbers of lots (DrawLotsOf, DrawLotsSeal): in which range they are, and that nothing is written that was there. No condition but what each theorem says.
-/
import Derived.Test.YtapmmbngfklahaaDrawO
import Derived.Deep.RegionLaw
import Derived.Deep.Onto
namespace Go.Proofs.Ytapmmbngfklahaa
open Go.RowKit

/-- -1, 999 or 1000. -/
def q3 (d : Nat) : Int := if d = 0 then -1 else if d = 1 then 999 else 1000
theorem q3_at (d : Nat) (h : d < 3) : (#[Value.int .i64 (-1), .int .i64 999, .int .i64 1000] : Array Value)[d]? = some (.int .i64 (q3 d)) := by
  have e : d = 0 ∨ d = 1 ∨ d = 2 := by omega
  rcases e with rfl | rfl | rfl <;> rfl
theorem q3_cell (w : World) (t : TypeId) (d : Nat) (h : d < 3) : (w.alloc (.cells #[.int .i64 (-1), .int .i64 999, .int .i64 1000] t)).cell? ⟨w.heap.size, d, none⟩ = some (.int .i64 (q3 d)) :=
  (World.cell?_alloc_mark w _ t (0, 0) d).trans (q3_at d h)
theorem q3_range (d : Nat) : -1 ≤ q3 d ∧ q3 d ≤ 1000 := by
  unfold q3
  by_cases h0 : d = 0
  · rw [if_pos h0]; omega
  · rw [if_neg h0]
    by_cases h1 : d = 1
    · rw [if_pos h1]; omega
    · rw [if_neg h1]; omega
theorem step_cell {R : Nat} {w w' : World} (h : Step R w w') {b o : Nat} {v : Value} (hb : b < w.heap.size) (hR : b ≠ R) (hc : w.cell? ⟨b, o, none⟩ = some v) : w'.cell? ⟨b, o, none⟩ = some v :=
  (World.cell?_of_block (h.block b hb (fun e => hR (by injection e)))).trans hc

theorem arr_step {R : Nat} {w w' : World} {t : TypeId} (hs : Step R (w.alloc (.cells #[.int .i64 (-1), .int .i64 999, .int .i64 1000] t)) w') (hR : w.heap.size ≠ R) {d : Nat} (hd : d < 3) : w'.cell? ⟨w.heap.size, d, none⟩ = some (.int .i64 (q3 d)) :=
  step_cell hs (by simp) hR (q3_cell w t d hd)
theorem arr_step_drew {R : Nat} {w w' : World} {t : TypeId} (hs : Step R (w.alloc (.cells #[.int .i64 (-1), .int .i64 999, .int .i64 1000] t)).drew w') (hR : w.heap.size ≠ R) : ∀ d, d < 3 → w'.cell? ⟨w.heap.size, d, none⟩ = some (.int .i64 (q3 d)) := fun _ hd => arr_step (Step.of_drew hs) hR hd
theorem step_over {R : Nat} {w w' : World} {o : Obj} (hs : Step R (w.alloc o).drew w') : Step R w w' := ((Step.refl R w).alloc o).trans (Step.of_drew hs)
theorem step_on {R : Nat} {w v w' : World} {o : Obj} (h : Step R w v) (hs : Step R (v.alloc o) w') : Step R w w' := (h.alloc o).trans hs
theorem le_alloc (w : World) (o : Obj) : w.heap.size ≤ (w.alloc o).heap.size := by simp
theorem step_under {R : Nat} {w w' : World} {o : Obj} (hs : Step R (w.alloc o) w') : Step R w w' := ((Step.refl R w).alloc o).trans hs
theorem step_on2 {R : Nat} {w v w' : World} {o o' : Obj} (h : Step R w v) (hs : Step R ((v.alloc o).alloc o') w') : Step R w w' := ((h.alloc o).alloc o').trans hs
theorem step_over2 {R : Nat} {w w' : World} {o o' : Obj} (hs : Step R ((w.alloc o).alloc o').drew w') : Step R w w' := (((Step.refl R w).alloc o).alloc o').trans (Step.of_drew hs)
theorem old2_lt {R : Nat} {w w' : World} {o o' : Obj} (h : Step R ((w.alloc o).alloc o').drew w') : w.heap.size < w'.heap.size := by have := h.size; simp at this; omega
theorem old3_lt {R : Nat} {w w' : World} {o o' : Obj} (h : Step R ((w.alloc o).alloc o').drew w') : w.heap.size + 1 < w'.heap.size := by have := h.size; simp at this; omega
theorem new_not1 {R : Nat} {w w' : World} (h : Step R w w') (hR : R < w.heap.size) : w'.heap.size + 1 ≠ R := by have := h.size; omega
theorem arr_step2 {R : Nat} {w w' : World} {t : TypeId} {o : Obj} (hs : Step R ((w.alloc (.cells #[.int .i64 (-1), .int .i64 999, .int .i64 1000] t)).alloc o) w') (hR : w.heap.size ≠ R) {d : Nat} (hd : d < 3) : w'.cell? ⟨w.heap.size, d, none⟩ = some (.int .i64 (q3 d)) :=
  arr_step (step_under hs) hR hd
theorem arr_step3 {R : Nat} {w w' : World} {t : TypeId} {o : Obj} (hs : Step R ((w.alloc o).alloc (.cells #[.int .i64 (-1), .int .i64 999, .int .i64 1000] t)) w') (hR : w.heap.size + 1 ≠ R) {d : Nat} (hd : d < 3) : w'.cell? ⟨w.heap.size + 1, d, none⟩ = some (.int .i64 (q3 d)) := by
  have h := arr_step hs (by rw [World.size_alloc]; exact hR) hd
  rwa [World.size_alloc] at h
theorem arr2_drew {R : Nat} {w w' : World} {t : TypeId} {o : Obj} (hs : Step R ((w.alloc (.cells #[.int .i64 (-1), .int .i64 999, .int .i64 1000] t)).alloc o).drew w') (hR : w.heap.size ≠ R) : ∀ d, d < 3 → w'.cell? ⟨w.heap.size, d, none⟩ = some (.int .i64 (q3 d)) := fun _ hd => arr_step2 (Step.of_drew hs) hR hd
theorem arr3_drew {R : Nat} {w w' : World} {t : TypeId} {o : Obj} (hs : Step R ((w.alloc o).alloc (.cells #[.int .i64 (-1), .int .i64 999, .int .i64 1000] t)).drew w') (hR : w.heap.size + 1 ≠ R) : ∀ d, d < 3 → w'.cell? ⟨w.heap.size + 1, d, none⟩ = some (.int .i64 (q3 d)) := fun _ hd => arr_step3 (Step.of_drew hs) hR hd
theorem q3_cell2 (w : World) (t : TypeId) (o : Obj) (d : Nat) (h : d < 3) : ((w.alloc o).alloc (.cells #[.int .i64 (-1), .int .i64 999, .int .i64 1000] t)).cell? ⟨w.heap.size + 1, d, none⟩ = some (.int .i64 (q3 d)) := by
  have := q3_cell (w.alloc o) t d h
  rwa [World.size_alloc] at this
theorem alloc_lt {R : Nat} {w w' : World} {o : Obj} (h : Step R (w.alloc o) w') : w.heap.size < w'.heap.size := by have := h.size; simp at this; omega
theorem q3_get (d : Nat) (h : d < 3) : ([Value.int .i64 (-1), .int .i64 999, .int .i64 1000] : List Value)[d]? = some (.int .i64 (q3 d)) := by
  have e : d = 0 ∨ d = 1 ∨ d = 2 := by omega
  rcases e with rfl | rfl | rfl <;> rfl
theorem lt_three {d : Nat} (h : (d : Int) < 3) : d < 3 := by omega
theorem new_not {R : Nat} {w w' : World} (h : Step R w w') (hR : R < w.heap.size) : w'.heap.size ≠ R := by have := h.size; omega
theorem old_lt {R : Nat} {w w' : World} {o : Obj} (h : Step R (w.alloc o).drew w') : w.heap.size < w'.heap.size := by have := h.size; simp at this; omega

/-- What the draw of two numbers says to its caller. -/
def DrawnNums (w : World) (e : Ending) (w' : World) : Prop := ∃ x y : Int, e = .returned (.tuple #[.int .i64 x, .int .i64 y]) ∧ (-1 ≤ x ∧ x ≤ 1000) ∧ (-1 ≤ y ∧ y ≤ 1000) ∧ Below w.heap.size w w'

set_option maxRecDepth 100000 in
set_option maxHeartbeats 4000000 in
/-- **DrawLotsOf**. -/
theorem drawLotsOf_any (a : Option Addr) (len cap : Nat) (bs : List Int) (w : World) (h : IsBytes w a len bs) (hcap : len ≤ cap) (hl : len ≤ 1048600) :
    Calls Try.prog 13 #[.slice a len cap] w (DrawnNums w) := by
  have H := Lib.hid h; clear h
  go_enter Try.func13, Try.ntmps13
  go_wp2_with fail
  refine (open_any a len cap bs _ H.out hcap hl).mono ?_
  rintro e w1 ⟨rfl, hr, hb⟩
  have R1 := Lib.hid hr
  have B1 := Lib.hid hb
  have hw1 : w.heap.size < w1.heap.size := hr.1
  clear hr hb
  go_wp2_with fail
  refine (pick_any w.heap.size 0 12 _ R1.out (by omega) (by omega) (by omega)).mono ?_
  rintro e w2 ⟨m, rfl, hm, hr, hs⟩
  have R2 := Lib.hid hr
  have B2 := Lib.hid (B1.out.trans (hs.below (Nat.le_refl _) (Nat.le_of_lt hw1)))
  have hw2 : w.heap.size < w2.heap.size := hr.1
  clear hr hs R1 B1
  cases hm0 : ((m : Int) == 0)
  · go_wp2_with fail
    refine (pick_any w.heap.size (0 + 1) 5 _ R2.out (by omega) (by omega) (by omega)).mono ?_
    rintro e w3 ⟨n, rfl, hn, hr, hs⟩
    have R3 := Lib.hid hr
    have B3 := Lib.hid (B2.out.trans (hs.below (Nat.le_refl _) (Nat.le_of_lt hw2)))
    have hw3 : w.heap.size < w3.heap.size := hr.1
    clear hr hs R2 B2
    go_wp2_with fail
    refine (pick_any w.heap.size (0 + 1 + 1) 250 _ R3.out (by omega) (by omega) (by omega)).mono ?_
    rintro e w4 ⟨s, rfl, hs4, hr, hs⟩
    have B4 := Lib.hid (B3.out.trans (hs.below (Nat.le_refl _) (Nat.le_of_lt hw3)))
    clear hr hs R3 B3
    go_wp2
    go_ret2
    exact ⟨_, _, rfl, by omega, by omega, B4.out⟩
  · have hne : w2.heap.size ≠ w.heap.size := by omega
    go_wp2_with fail
    go_region_law (first
      | (have hR3 := R3.out; go_simp; go_at_call 33; refine (pick_any w.heap.size (0 + 1 + 1) 3 _ ?_ (by omega) (by omega) (by omega)).mono ?_; (first | exact hR3 | exact hR3.below ((Below.refl _ w3).alloc (Nat.le_refl _) _)); rintro e w4 ⟨d, rfl, hd, hr4, hs4⟩; clear hR3; (first
          | (have hq := step_cell hs4 L3.out hne (A3.out d (lt_three hd)); have S4 := Lib.hid (S3.out.trans hs4); clear hr4 hs4)
          | (have hq := arr_step hs4 (new_not S3.out hw2) (lt_three hd); have S4 := Lib.hid (step_on S3.out hs4); clear hr4 hs4)
          | (have hq := q3_cell w4 3 d (lt_three hd); have S4 := Lib.hid (S3.out.trans hs4); clear hr4 hs4)))
      | (go_simp; go_at_call 33; refine (pick_any w.heap.size (0 + 1) 8 _ ?_ (by omega) (by omega) (by omega)).mono ?_; (first | exact R2.out | exact R2.out.below ((Below.refl _ w2).alloc (Nat.le_refl _) _).drew); rintro e w3 ⟨n, rfl, hn, hr3, hs3⟩; have R3 := Lib.hid hr3; (first
          | (have A3 := Lib.hid (arr_step_drew hs3 hne); have L3 := Lib.hid (old_lt hs3); have S3 := Lib.hid (step_over hs3); clear hr3 hs3)
          | (have S3 := Lib.hid (Step.of_drew hs3); clear hr3 hs3))))
    all_goals
      have hqr := q3_range d
      have B4 := Lib.hid (B2.out.trans (S4.out.below (Nat.le_refl _) (Nat.le_of_lt hw2)))
      have hB4 := B4.out.size
      have hwn := Lib.hid (IntWalk.i64_in ((n : Int) - 1) (by omega))
      clear hq
      go_wp2
      go_ret2
      first
        | exact ⟨_, _, rfl, by rw [hwn.out]; omega, hqr, B4.out⟩
        | exact ⟨_, _, rfl, by rw [hwn.out]; omega, hqr, B4.out.alloc hB4 _⟩

set_option maxRecDepth 100000 in
set_option maxHeartbeats 4000000 in
/-- **DrawLotsSeal**. -/
theorem drawLotsSeal_any (a : Option Addr) (len cap : Nat) (bs : List Int) (w : World) (h : IsBytes w a len bs) (hcap : len ≤ cap) (hl : len ≤ 1048600) :
    Calls Try.prog 23 #[.slice a len cap] w (DrawnNums w) := by
  have H := Lib.hid h; clear h
  go_enter Try.func23, Try.ntmps23
  go_wp2_with fail
  refine (open_any a len cap bs _ H.out hcap hl).mono ?_
  rintro e w1 ⟨rfl, hr, hb⟩
  have R1 := Lib.hid hr
  have B1 := Lib.hid hb
  have hw1 : w.heap.size < w1.heap.size := hr.1
  clear hr hb
  go_wp2_with fail
  refine (pick_any w.heap.size 0 12 _ R1.out (by omega) (by omega) (by omega)).mono ?_
  rintro e w2 ⟨m, rfl, hm, hr, hs⟩
  have R2 := Lib.hid hr
  have B2 := Lib.hid (B1.out.trans (hs.below (Nat.le_refl _) (Nat.le_of_lt hw1)))
  have hw2 : w.heap.size < w2.heap.size := hr.1
  clear hr hs R1 B1
  cases hm0 : ((m : Int) == 0)
  · go_wp2_with fail
    refine (pick_any w.heap.size (0 + 1) 250 _ R2.out (by omega) (by omega) (by omega)).mono ?_
    rintro e w3 ⟨n, rfl, hn, hr, hs⟩
    have R3 := Lib.hid hr
    have B3 := Lib.hid (B2.out.trans (hs.below (Nat.le_refl _) (Nat.le_of_lt hw2)))
    have hw3 : w.heap.size < w3.heap.size := hr.1
    clear hr hs R2 B2
    go_wp2_with fail
    refine (pick_any w.heap.size (0 + 1 + 1) 250 _ R3.out (by omega) (by omega) (by omega)).mono ?_
    rintro e w4 ⟨s, rfl, hs4, hr, hs⟩
    have B4 := Lib.hid (B3.out.trans (hs.below (Nat.le_refl _) (Nat.le_of_lt hw3)))
    clear hr hs R3 B3
    go_wp2
    go_ret2
    exact ⟨_, _, rfl, by omega, by omega, B4.out⟩
  · have hne : w2.heap.size ≠ w.heap.size := by omega
    have hne1 : w2.heap.size + 1 ≠ w.heap.size := by omega
    go_wp2_with fail
    go_region_law (first
      | (have hR3 := R3.out; go_simp; go_at_call 33; refine (pick_any w.heap.size (0 + 1 + 1) 3 _ ?_ (by omega) (by omega) (by omega)).mono ?_; (first | exact hR3 | exact hR3.below ((Below.refl _ w3).alloc (Nat.le_refl _) _) | exact hR3.below (((Below.refl _ w3).alloc (Nat.le_refl _) _).alloc (le_alloc w3 _) _)); rintro e w4 ⟨d, rfl, hd, hr4, hs4⟩; clear hR3; have hgd := q3_get d (lt_three hd); (first
          | (have hz1 := step_cell hs4 L3b.out hne (A3b.out d (lt_three hd)); have hz2 := step_cell hs4 M3b.out hne1 (C3b.out d (lt_three hd)); have hz3 := step_cell hs4 L3b.out hne (A3b.out c (lt_three hc)); have hz4 := step_cell hs4 M3b.out hne1 (C3b.out c (lt_three hc)); have S4 := Lib.hid (S3.out.trans hs4); clear hr4 hs4)
          | (have hz1 := step_cell hs4 L3.out hne (A3.out d (lt_three hd)); have hz2 := step_cell hs4 L3.out hne (A3.out c (lt_three hc)); have hq := q3_cell w4 3 d (lt_three hd); have hq2 := q3_cell w4 3 c (lt_three hc); have hL4 := Nat.lt_of_lt_of_le L3.out hs4.size; have S4 := Lib.hid (S3.out.trans hs4); clear hr4 hs4)
          | (have hz1 := step_cell (step_under hs4) L3.out hne (A3.out d (lt_three hd)); have hz2 := step_cell (step_under hs4) L3.out hne (A3.out c (lt_three hc)); have hq := arr_step hs4 (new_not S3.out hw2) (lt_three hd); have hq2 := arr_step hs4 (new_not S3.out hw2) (lt_three hc); have S4 := Lib.hid (step_on S3.out hs4); clear hr4 hs4)
          | (have hq := arr_step2 hs4 (new_not S3.out hw2) (lt_three hd); have hq1 := arr_step3 hs4 (new_not1 S3.out hw2) (lt_three hd); have hq2 := arr_step2 hs4 (new_not S3.out hw2) (lt_three hc); have hq3 := arr_step3 hs4 (new_not1 S3.out hw2) (lt_three hc); have S4 := Lib.hid (step_on2 S3.out hs4); clear hr4 hs4)
          | (have hq := arr_step hs4 (new_not S3.out hw2) (lt_three hd); have hq2 := arr_step hs4 (new_not S3.out hw2) (lt_three hc); have hk := q3_cell w4 3 d (lt_three hd); have hk2 := q3_cell w4 3 c (lt_three hc); have hL4 := alloc_lt hs4; have S4 := Lib.hid (step_on S3.out hs4); clear hr4 hs4)
          | (have hq := q3_cell w4 3 d (lt_three hd); have hq2 := q3_cell w4 3 c (lt_three hc); have hk := q3_cell2 w4 3 (.cells #[.int .i64 (-1), .int .i64 999, .int .i64 1000] 3) d (lt_three hd); have hk2 := q3_cell2 w4 3 (.cells #[.int .i64 (-1), .int .i64 999, .int .i64 1000] 3) c (lt_three hc); have S4 := Lib.hid (S3.out.trans hs4); clear hr4 hs4)))
      | (go_simp; go_at_call 33; refine (pick_any w.heap.size (0 + 1) 3 _ ?_ (by omega) (by omega) (by omega)).mono ?_; (first | exact R2.out | exact R2.out.below ((Below.refl _ w2).alloc (Nat.le_refl _) _).drew | exact R2.out.below (((Below.refl _ w2).alloc (Nat.le_refl _) _).alloc (le_alloc w2 _) _).drew); rintro e w3 ⟨c, rfl, hc, hr3, hs3⟩; have R3 := Lib.hid hr3; have hgc := q3_get c (lt_three hc); (first
          | (have A3b := Lib.hid (arr2_drew hs3 hne); have C3b := Lib.hid (arr3_drew hs3 hne1); have L3b := Lib.hid (old2_lt hs3); have M3b := Lib.hid (old3_lt hs3); have hy1 := A3b.out c (lt_three hc); have hy2 := C3b.out c (lt_three hc); have S3 := Lib.hid (step_over2 hs3); clear hr3 hs3)
          | (have A3 := Lib.hid (arr_step_drew hs3 hne); have L3 := Lib.hid (old_lt hs3); have hL3 := L3.out; have hy1 := A3.out c (lt_three hc); have hy2 := q3_cell w3 3 c (lt_three hc); have S3 := Lib.hid (step_over hs3); clear hr3 hs3)
          | (have hy2 := q3_cell w3 3 c (lt_three hc); have hy3 := q3_cell2 w3 3 (.cells #[.int .i64 (-1), .int .i64 999, .int .i64 1000] 3) c (lt_three hc); have S3 := Lib.hid (Step.of_drew hs3); clear hr3 hs3))))
    all_goals
      have hqc := q3_range c
      have hqd := q3_range d
      have B4 := Lib.hid (B2.out.trans (S4.out.below (Nat.le_refl _) (Nat.le_of_lt hw2)))
      have hB4 := B4.out.size
      clear R3 S3
      go_wp2
      go_ret2
      first
        | exact ⟨_, _, rfl, hqc, hqd, B4.out⟩
        | exact ⟨_, _, rfl, hqc, hqd, B4.out.alloc hB4 _⟩
        | exact ⟨_, _, rfl, hqc, hqd, (B4.out.alloc hB4 _).alloc (Nat.le_trans hB4 (by simp)) _⟩

end Go.Proofs.Ytapmmbngfklahaa
