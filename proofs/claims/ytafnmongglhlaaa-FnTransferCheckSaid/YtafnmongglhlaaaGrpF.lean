/-
  Arrays that are laid in a drawing region between picks, and what is kept of blocks while the reader goes on. Of no function of the seat.
  l93Frac: a drawn fraction. No condition but that the reader stands where it is said to.
-/
import Derived.Test.YtafnmongglhlaaaGrp4
import Derived.Test.YtafnmongglhlaaaGrpT
import Derived.Deep.RegionLaw
import Derived.Deep.Onto
import Derived.Deep.Cut
import Derived.Deep.CutRange
namespace Go.Proofs.Ytafnmongglhlaaa
open Go.RowKit

theorem step_same {R : Nat} {w w' : World} (h : Step R w w') {b o : Nat} (hb : b < w.heap.size) (hR : b ≠ R) : w'.cell? ⟨b, o, none⟩ = w.cell? ⟨b, o, none⟩ :=
  World.cell?_of_block (h.block b hb (fun e => hR (by injection e)))
theorem new_cell (w : World) (xs : Array Value) (t : TypeId) (d : Nat) : (w.alloc (.cells xs t)).cell? ⟨w.heap.size, d, none⟩ = xs[d]? := (World.cell?_alloc_mark w xs t (0, 0) d)


/-- One array, then a pick. -/
theorem arr_a {R : Nat} {w w' : World} {xs : Array Value} {t : TypeId} (hs : Step R (w.alloc (.cells xs t)) w') (hR : w.heap.size ≠ R) (d : Nat) : w'.cell? ⟨w.heap.size, d, none⟩ = xs[d]? :=
  (step_same hs (lt_alloc _ _) hR).trans (new_cell w xs t d)
/-- Two arrays, then a pick: the first one, the second one. -/
theorem arr_b {R : Nat} {w w' : World} {xs : Array Value} {t : TypeId} {o : Obj} (hs : Step R ((w.alloc (.cells xs t)).alloc o) w') (hR : w.heap.size ≠ R) (d : Nat) : w'.cell? ⟨w.heap.size, d, none⟩ = xs[d]? :=
  arr_a (((Step.refl R _).alloc o).trans hs) hR d
theorem arr_c {R : Nat} {w w' : World} {xs : Array Value} {t : TypeId} {o : Obj} (hs : Step R ((w.alloc o).alloc (.cells xs t)) w') (hR : w.heap.size + 1 ≠ R) (d : Nat) : w'.cell? ⟨w.heap.size + 1, d, none⟩ = xs[d]? := by
  have h := arr_a hs (by rw [World.size_alloc]; exact hR) d
  rwa [World.size_alloc] at h
/-- Two arrays behind the last pick: the second one. -/
theorem arr_n (w : World) (xs : Array Value) (t : TypeId) (o : Obj) (d : Nat) : ((w.alloc o).alloc (.cells xs t)).cell? ⟨w.heap.size + 1, d, none⟩ = xs[d]? := by
  have := new_cell (w.alloc o) xs t d
  rwa [World.size_alloc] at this
theorem step_one {R : Nat} {w w' : World} {o : Obj} (hs : Step R (w.alloc o) w') : Step R w w' := ((Step.refl R w).alloc o).trans hs
theorem step_two {R : Nat} {w w' : World} {o o' : Obj} (hs : Step R ((w.alloc o).alloc o') w') : Step R w w' := (((Step.refl R w).alloc o).alloc o').trans hs
theorem one_lt {R : Nat} {w w' : World} {o : Obj} (h : Step R (w.alloc o) w') : w.heap.size < w'.heap.size := by have := h.size; simp at this; omega
theorem two_lt {R : Nat} {w w' : World} {o o' : Obj} (h : Step R ((w.alloc o).alloc o') w') : w.heap.size + 1 < w'.heap.size := by have := h.size; simp at this; omega
theorem step_le {R : Nat} {w w' : World} (h : Step R w w') : w.heap.size ≤ w'.heap.size := h.size
theorem not_new {R : Nat} {w w' : World} (h : Step R w w') (hR : R < w.heap.size) : w'.heap.size ≠ R := by have := h.size; omega
theorem not_new1 {R : Nat} {w w' : World} (h : Step R w w') (hR : R < w.heap.size) : w'.heap.size + 1 ≠ R := by have := h.size; omega
theorem Two.step {R : Nat} {w w' : World} {g : Nat} {x y : Int} (h : Two w g x y) (hs : Step R w w') (hg : g ≠ R) : Two w' g x y :=
  ⟨Nat.lt_of_lt_of_le h.lt hs.size, (step_same hs h.lt hg).trans h.c0, (step_same hs h.lt hg).trans h.c1,
   (World.frozen?_of_block (w := w) (hs.block g h.lt (fun e => hg (by injection e)))).trans h.f0, (World.frozen?_of_block (w := w) (hs.block g h.lt (fun e => hg (by injection e)))).trans h.f1⟩
/-- A reader is kept where nothing up to its own block turns. -/
theorem Rd.low {w w' : World} {R p : Nat} (h : Rd w R p) (hb : Below (R + 1) w w') : Rd w' R p := by
  obtain ⟨h1, h2, h3, h4, a, len, cap, bs, h5, h6, h7, h8, h9⟩ := h
  refine ⟨Nat.lt_of_lt_of_le h1 hb.size, h2, (hb.cell (p := ⟨R, 1, none⟩) (by simp)).trans h3, (hb.frozen (p := ⟨R, 1, none⟩) (by simp)).trans h4, a, len, cap, bs, (hb.cell (p := ⟨R, 0, none⟩) (by simp)).trans h5, h6, h7, h8, fun hl => ?_⟩
  obtain ⟨b, off, e, hbR, hc⟩ := h9 hl
  exact ⟨b, off, e, hbR, fun j hj => (hb.cell (p := ⟨b, off + j, none⟩) (by simp; omega)).trans (hc j hj)⟩
theorem Rd.alloc {w : World} {R p : Nat} (h : Rd w R p) (o : Obj) : Rd (w.alloc o) R p := h.below ((Below.refl _ w).alloc (Nat.le_refl _) _)
theorem Rd.alloc_drew {w : World} {R p : Nat} (h : Rd w R p) (o : Obj) : Rd (w.alloc o).drew R p := h.below ((Below.refl _ w).alloc (Nat.le_refl _) _).drew
theorem Rd.alloc2_drew {w : World} {R p : Nat} (h : Rd w R p) (o o' : Obj) : Rd ((w.alloc o).alloc o').drew R p := h.below (((Below.refl _ w).alloc (Nat.le_refl _) _).alloc (le_alloc w _) _).drew
theorem Rd.drew {w : World} {R p : Nat} (h : Rd w R p) : Rd w.drew R p := h.below (Below.refl _ w).drew
theorem Rd.set2 {w : World} {R p g : Nat} (h : Rd w R p) (hg : R < g) (u v : Value) : Rd ((w.setCell ⟨g, 0, none⟩ u).setCell ⟨g, 1, none⟩ v) R p := h.low (((Below.refl _ w).setCell hg u).setCell hg v)
theorem Step.set {R : Nat} {w w' : World} (h : Step R w w') {g : Nat} (hg : w.heap.size ≤ g) (o : Nat) (v : Value) : Step R w (w'.setCell ⟨g, o, none⟩ v) :=
  ⟨h.os, h.tape, h.output, by have := h.size; simpa [World.setCell] using this, fun k hk hr => (Below.heap_setCell _ _ _ _ (by show k ≠ g; omega)).trans (h.block k hk hr)⟩
theorem Two.other {w : World} {g g' o : Nat} {x y : Int} {v : Value} (h : Two w g x y) (hg : g ≠ g') : Two (w.setCell ⟨g', o, none⟩ v) g x y :=
  ⟨by simpa [World.setCell] using h.lt, (World.cell?_of_block (w := w) (Below.heap_setCell _ _ _ _ hg)).trans h.c0, (World.cell?_of_block (w := w) (Below.heap_setCell _ _ _ _ hg)).trans h.c1,
   (World.frozen?_of_block (w := w) (Below.heap_setCell _ _ _ _ hg)).trans h.f0, (World.frozen?_of_block (w := w) (Below.heap_setCell _ _ _ _ hg)).trans h.f1⟩
theorem Two.stored {w : World} {g : Nat} {x y : Int} (h : Two w g x y) (u v : Int) : Two ((w.setCell ⟨g, 0, none⟩ (.int .i64 u)).setCell ⟨g, 1, none⟩ (.int .i64 v)) g u v :=
  ⟨by simpa [World.setCell] using h.lt, by rw [World.cell?_setCell_other _ _ _ _ (by intro e; injection e with _ e2; exact absurd e2 (by decide))]; exact h.set0 _, h.set1 _ _, by simpa using h.f0, by simpa using h.f1⟩
theorem lt_int {d n : Nat} (h : (d : Int) < (n : Int)) : d < n := by omega

end Go.Proofs.Ytafnmongglhlaaa

namespace Go.Proofs.Ytafnmongglhlaaa
open Go.RowKit

/-- 9999999, -9999999 or 10000000. -/
def qA (d : Nat) : Int := if d = 0 then 9999999 else if d = 1 then -9999999 else 10000000
theorem qA_get (d : Nat) (h : (d : Int) < 3) : ([Value.int .i64 9999999, .int .i64 (-9999999), .int .i64 10000000] : List Value)[d]? = some (.int .i64 (qA d)) := by
  have e : d = 0 ∨ d = 1 ∨ d = 2 := by omega
  rcases e with rfl | rfl | rfl <;> rfl
/-- 1, 10 or 9999999. -/
def qB (d : Nat) : Int := if d = 0 then 1 else if d = 1 then 10 else 9999999
theorem qB_get (d : Nat) (h : (d : Int) < 3) : ([Value.int .i64 1, .int .i64 10, .int .i64 9999999] : List Value)[d]? = some (.int .i64 (qB d)) := by
  have e : d = 0 ∨ d = 1 ∨ d = 2 := by omega
  rcases e with rfl | rfl | rfl <;> rfl

/-- What the draw of a fraction says to its caller: the reader goes on by three places. -/
def DrawnFrac (R p : Nat) (w : World) (e : Ending) (w' : World) : Prop := ∃ x y : Int, e = .returned (.agg #[.int .i64 x, .int .i64 y]) ∧ Rd w' R (p + 3) ∧ Step R w w'

/-- What stands behind the region. -/
def MetF (R p g : Nat) (w wx : World) : Prop := ∃ x y : Int, Two wx g x y ∧ Rd wx R (p + 3) ∧ Step R w wx

set_option maxRecDepth 100000 in
set_option maxHeartbeats 8000000 in
/-- **l93Frac**. -/
theorem l93_any (R p : Nat) (w : World) (h : Rd w R p) (hp : p + 3 ≤ 1000000) :
    Calls Try.prog 59 #[.pointer (some ⟨R, 0, none⟩)] w (DrawnFrac R p w) := by
  have hRw : R < w.heap.size := h.1
  have R0 := Lib.hid (h.alloc (.cells #[.int .i64 0, .int .i64 0] 40))
  have T0 := Lib.hid (Two.new w 0 0 40)
  have S0 := Lib.hid ((Step.refl R w).alloc (.cells #[.int .i64 0, .int .i64 0] 40))
  have hne : w.heap.size ≠ R := by omega
  clear h
  go_enter Try.func59, Try.ntmps59
  go_wp2_with fail
  refine (pick_any R p 20 _ R0.out (by omega) (by omega) (by omega)).mono ?_
  rintro e w1 ⟨m, rfl, hm, hr, hs⟩
  have R1 := Lib.hid hr
  have T1 := Lib.hid (T0.out.step hs hne)
  have S1 := Lib.hid (S0.out.trans hs)
  clear hr hs R0 T0 S0
  cases hm0 : ((m : Int) == 0)
  · cases hm1 : ((m : Int) == 1)
    · go_wp2_with fail
      refine (pick_any R (p + 1) 60 _ R1.out (by omega) (by omega) (by omega)).mono ?_
      rintro e w2 ⟨c, rfl, hc, hr, hs⟩
      have R2 := Lib.hid hr
      have T2 := Lib.hid (T1.out.step hs hne)
      have S2 := Lib.hid (S1.out.trans hs)
      clear hr hs R1 T1 S1
      have hw1 : IntKind.i64.wrap ((c : Int) - 20) = (c : Int) - 20 := IntWalk.i64_in _ (by omega)
      go_wp2_with fail
      refine (pick_any R (p + 1 + 1) 40 _ R2.out (by omega) (by omega) (by omega)).mono ?_
      rintro e w3 ⟨d, rfl, hd, hr, hs⟩
      have R3 := Lib.hid hr
      have T3 := Lib.hid (T2.out.step hs hne)
      have S3 := Lib.hid (S2.out.trans hs)
      clear hr hs R2 T2 S2
      have hw2 : IntKind.i64.wrap (1 + (d : Int)) = 1 + (d : Int) := IntWalk.i64_in _ (by omega)
      obtain ⟨x, y, hxy⟩ : ∃ x y, ofF ((c : Int) - 20) (1 + (d : Int)) = (x, y) := ⟨_, _, rfl⟩
      have HXY := Lib.hid hxy
      clear hxy
      go_wp2_with fail
      refine (l5Of_as _ _ x y _ (by omega) (by omega) HXY.out).mono ?_
      rintro e w4 ⟨rfl, hb⟩
      have R4 := Lib.hid (R3.out.below hb)
      have T4 := Lib.hid (T3.out.below hb)
      have S4 := Lib.hid (S3.out.trans (⟨hb.os, hb.tape, hb.output, hb.size, fun k hk _ => hb.block k hk⟩ : Step R w3 w4))
      clear hb R3 T3 S3
      obtain ⟨lr, r0, r9, g0, g9⟩ := T4.out
      have k0 := Two.set0 T4.out (.int .i64 x)
      have k9 := Two.set1 T4.out (.int .i64 x) (.int .i64 y)
      go_wp2
      refine bodyPost_ret (v := .agg #[.int .i64 x, .int .i64 y]) (by simp [results, Try.results59, go_sem, k0, k9]) rfl ?_
      exact ⟨x, y, rfl, R4.out.set2 hRw _ _, (S4.out.set (Nat.le_refl _) _ _).set (Nat.le_refl _) _ _⟩
    · have hm : m = 1 := by have h1 := hm1; simp at h1; omega
      subst hm
      obtain ⟨lr, r0, r9, g0, g9⟩ := T1.out
      have hne2 : w1.heap.size ≠ R := by have := S1.out.size; omega
      have hne3 : w1.heap.size + 1 ≠ R := by have := S1.out.size; omega
      have hRw1 : R < w1.heap.size := R1.out.1
      go_upto_region 5 with fail
      go_cut [] from 15 to 25 (fun wx => MetF R p w.heap.size w wx)
      case first =>
        go_region_law (first
        | (have hR3 := R3.out; go_simp; go_at_call 58; refine (pick_any R (p + 1 + 1) 3 _ ?_ (by omega) (by omega) (by omega)).mono ?_; (first | exact hR3 | exact hR3.alloc _ | exact (hR3.alloc _).alloc _); rintro e w4 ⟨d, rfl, hd, hr4, hs4⟩; clear hR3; have hgd := qB_get d hd; (first
            | (have S4 := Lib.hid (S3.out.trans hs4); have R4 := Lib.hid hr4; have hz1 := (step_same hs4 L3b.out hne2).trans (A3b.out c); have hz2 := (step_same hs4 L3b.out hne2).trans (A3b.out d); have hz3 := (step_same hs4 M3b.out hne3).trans (C3b.out c); have hz4 := (step_same hs4 M3b.out hne3).trans (C3b.out d); obtain ⟨lr4, s0, s9, t0, t9⟩ := T1.out.step S4.out hne; clear hr4 hs4)
            | (have S4 := Lib.hid (S3.out.trans hs4); have R4 := Lib.hid hr4; have hz1 := (step_same hs4 L3.out hne2).trans (A3.out c); have hz2 := (step_same hs4 L3.out hne2).trans (A3.out d); have hL4 := Nat.lt_of_lt_of_le L3.out hs4.size; obtain ⟨lr4, s0, s9, t0, t9⟩ := T1.out.step S4.out hne; clear hr4 hs4)
            | (have hz1 := (step_same (step_one hs4) L3.out hne2).trans (A3.out c); have hz2 := (step_same (step_one hs4) L3.out hne2).trans (A3.out d); have hz3 := arr_a hs4 (not_new S3.out hRw1) c; have hz4 := arr_a hs4 (not_new S3.out hRw1) d; have S4 := Lib.hid (S3.out.trans (step_one hs4)); have R4 := Lib.hid hr4; obtain ⟨lr4, s0, s9, t0, t9⟩ := T1.out.step S4.out hne; clear hr4 hs4)
            | (have hz1 := arr_b hs4 (not_new S3.out hRw1) c; have hz2 := arr_b hs4 (not_new S3.out hRw1) d; have hz3 := arr_c hs4 (not_new1 S3.out hRw1) c; have hz4 := arr_c hs4 (not_new1 S3.out hRw1) d; have S4 := Lib.hid (S3.out.trans (step_two hs4)); have R4 := Lib.hid hr4; obtain ⟨lr4, s0, s9, t0, t9⟩ := T1.out.step S4.out hne; clear hr4 hs4)
            | (have hz1 := arr_a hs4 (not_new S3.out hRw1) c; have hz2 := arr_a hs4 (not_new S3.out hRw1) d; have hL4 := one_lt hs4; have S4 := Lib.hid (S3.out.trans (step_one hs4)); have R4 := Lib.hid hr4; obtain ⟨lr4, s0, s9, t0, t9⟩ := T1.out.step S4.out hne; clear hr4 hs4)
            | (have S4 := Lib.hid (S3.out.trans hs4); have R4 := Lib.hid hr4; obtain ⟨lr4, s0, s9, t0, t9⟩ := T1.out.step S4.out hne; clear hr4 hs4)))
        | (go_simp; go_at_call 58; refine (pick_any R (p + 1) 3 _ ?_ (by omega) (by omega) (by omega)).mono ?_; (first | exact R1.out | exact R1.out.drew | exact R1.out.alloc_drew _ | exact R1.out.alloc2_drew _ _); rintro e w3 ⟨c, rfl, hc, hr3, hs3⟩; have R3 := Lib.hid hr3; have hgc := qA_get c hc; (first
            | (have hs := Step.of_drew hs3; have A3b := Lib.hid (fun d => arr_b hs hne2 d); have C3b := Lib.hid (fun d => arr_c hs hne3 d); have L3b := Lib.hid (Nat.lt_of_succ_lt (two_lt hs)); have M3b := Lib.hid (two_lt hs); have S3 := Lib.hid (step_two hs); have hy1 := A3b.out c; have hy2 := C3b.out c; clear hr3 hs3 hs)
            | (have hs := Step.of_drew hs3; have A3 := Lib.hid (fun d => arr_a hs hne2 d); have L3 := Lib.hid (one_lt hs); have hL3 := L3.out; have S3 := Lib.hid (step_one hs); have hy1 := A3.out c; clear hr3 hs3 hs)
            | (have S3 := Lib.hid (Step.of_drew hs3); clear hr3 hs3))))
        all_goals
          have TT := (T1.out.step S4.out hne).stored (qA c) (qB d)
          have SS := ((S1.out.trans S4.out).set (Nat.le_refl _) 0 (.int .i64 (qA c))).set (Nat.le_refl _) 1 (.int .i64 (qB d))
          have RR := R4.out.set2 hRw (.int .i64 (qA c)) (.int .i64 (qB d))
          go_wp2_with fail
          go_meet
          first
            | exact ⟨_, _, TT, RR, SS⟩
            | exact ⟨_, _, TT.alloc _, RR.alloc _, SS.alloc _⟩
            | exact ⟨_, _, (TT.alloc _).alloc _, (RR.alloc _).alloc _, (SS.alloc _).alloc _⟩
      case rest =>
      obtain ⟨x, y, TT, RR, SS⟩ := hcut
      obtain ⟨-, k0, k9, -, -⟩ := TT
      clear lr r0 r9 g0 g9
      go_wp2
      refine bodyPost_ret (v := .agg #[.int .i64 x, .int .i64 y]) (by simp [results, Try.results59, go_sem, k0, k9]) rfl ?_
      exact ⟨x, y, rfl, RR, SS⟩
  · have hm : m = 0 := by have h1 := hm0; simp at h1; omega
    subst hm
    go_wp2_with fail
    refine (pick_any R (p + 1) 12 _ R1.out (by omega) (by omega) (by omega)).mono ?_
    rintro e w2 ⟨c, rfl, hc, hr, hs⟩
    have R2 := Lib.hid hr
    have T2 := Lib.hid (T1.out.step hs hne)
    have S2 := Lib.hid (S1.out.trans hs)
    clear hr hs R1 T1 S1
    go_wp2_with fail
    refine (pick_any R (p + 1 + 1) 12 _ R2.out (by omega) (by omega) (by omega)).mono ?_
    rintro e w3 ⟨d, rfl, hd, hr, hs⟩
    have R3 := Lib.hid hr
    have T3 := Lib.hid (T2.out.step hs hne)
    have S3 := Lib.hid (S2.out.trans hs)
    clear hr hs R2 T2 S2
    obtain ⟨lr, r0, r9, g0, g9⟩ := T3.out
    have k0 := Two.set0 T3.out (.int .i64 c)
    have k9 := Two.set1 T3.out (.int .i64 c) (.int .i64 d)
    go_wp2
    refine bodyPost_ret (v := .agg #[.int .i64 c, .int .i64 d]) (by simp [results, Try.results59, go_sem, k0, k9]) rfl ?_
    exact ⟨c, d, rfl, R3.out.set2 hRw _ _, (S3.out.set (Nat.le_refl _) _ _).set (Nat.le_refl _) _ _⟩

end Go.Proofs.Ytafnmongglhlaaa
