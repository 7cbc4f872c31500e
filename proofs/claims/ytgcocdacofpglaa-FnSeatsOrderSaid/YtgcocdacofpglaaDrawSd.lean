/-
  What the drawn statements of seats get: votes, a number of seats, a method, lots (DrawSeatsDivisor).
-/
import Derived.Test.YtgcocdacofpglaaDrawSv
namespace Go.Proofs.Ytgcocdacofpglaa
open Go.RowKit

attribute [local go_sem] Oper.semAt_some

def s3 (d : Nat) : Int := if d = 0 then -1 else if d = 1 then 20 else 21
theorem s3_cell (w : World) (t : TypeId) (d : Nat) (h : d < 3) : (w.alloc (.cells #[.int .i64 (-1), .int .i64 20, .int .i64 21] t)).cell? ⟨w.heap.size, d, none⟩ = some (.int .i64 (s3 d)) := by
  refine (World.cell?_alloc_mark w _ t (0, 0) d).trans ?_
  have e : d = 0 ∨ d = 1 ∨ d = 2 := by omega
  rcases e with rfl | rfl | rfl <;> simp [s3]
theorem s3_range (d : Nat) : -1 ≤ s3 d ∧ s3 d ≤ 21 := by unfold s3; split <;> (try split) <;> omega
theorem s3_step {R : Nat} {w w' : World} {t : TypeId} (hs : Step R (w.alloc (.cells #[.int .i64 (-1), .int .i64 20, .int .i64 21] t)) w') (hR : w.heap.size ≠ R) {d : Nat} (hd : d < 3) : w'.cell? ⟨w.heap.size, d, none⟩ = some (.int .i64 (s3 d)) :=
  step_cell hs (by simp) hR (s3_cell w t d hd)
theorem s3_step_drew {R : Nat} {w w' : World} {t : TypeId} (hs : Step R (w.alloc (.cells #[.int .i64 (-1), .int .i64 20, .int .i64 21] t)).drew w') (hR : w.heap.size ≠ R) {d : Nat} (hd : d < 3) : w'.cell? ⟨w.heap.size, d, none⟩ = some (.int .i64 (s3 d)) :=
  s3_step (Step.of_drew hs) hR hd
theorem s3_get (d : Nat) (h : d < 3) : ([Value.int .i64 (-1), .int .i64 20, .int .i64 21] : List Value)[d]? = some (.int .i64 (s3 d)) := by
  have e : d = 0 ∨ d = 1 ∨ d = 2 := by omega
  rcases e with rfl | rfl | rfl <;> simp [s3]

/-- What is drawn of votes, seats, a method and lots. -/
def DrewSD (w : World) (e : Ending) (w' : World) : Prop := ∃ (zs : List Int) (a : Option Addr) (c : Nat) (s m : Int) (lots : List Int) (al : Option Addr) (cl : Nat), e = .returned (.tuple #[.slice a zs.length c, .int .i64 s, .int .i64 m, .slice al lots.length cl]) ∧
  w'.ownsRow w.heap.size 3 1 (.slice a zs.length c) zs.length (zs.map (Value.int .i64)) ∧ zs.length ≤ 5 ∧ w'.ownsRow w.heap.size 3 1 (.slice al lots.length cl) lots.length (lots.map (Value.int .i64)) ∧ lots.length ≤ 5 ∧ (-1 ≤ s ∧ s ≤ 21) ∧ (0 ≤ m ∧ m ≤ 3) ∧ Below w.heap.size w w'

set_option maxRecDepth 100000 in
set_option maxHeartbeats 4000000 in
/-- **DrawSeatsDivisor**. -/
theorem drawSeats_any (a : Option Addr) (len cap : Nat) (bs : List Int) (w : World) (h : IsBytes w a len bs) (hcap : len ≤ cap) (hl : len ≤ 1048600) :
    Calls Try.prog 9 #[.slice a len cap] w (DrewSD w) := by
  have H := Lib.hid h; clear h
  go_enter Try.func9, Try.ntmps9
  go_wp2_with fail
  refine (open_any a len cap bs _ H.out hcap hl).mono ?_
  rintro e w1 ⟨rfl, hr, hb⟩
  obtain ⟨R, hR⟩ : ∃ R, w.heap.size = R := ⟨_, rfl⟩
  rw [hR] at hr ⊢
  have hRG : R < w1.heap.size := hr.1
  obtain ⟨G, hG⟩ : ∃ G, w1.heap.size = G := ⟨_, rfl⟩
  rw [hG] at hRG
  have HGS := Lib.hid hG
  have R1 := Lib.hid hr
  have B1 := Lib.hid hb
  have HR := Lib.hid hR
  clear hr hb hG hR
  go_wp2_with fail
  refine (pick_any R 0 5 _ R1.out (by omega) (by omega) (by omega)).mono ?_
  rintro e w2 ⟨d, rfl, hd, hr, hs⟩
  have R2 := Lib.hid hr
  have S2 := Lib.hid hs
  have g2 : G ≤ w2.heap.size := by have := hs.size; have := HGS.out; omega
  clear hr hs R1
  obtain ⟨N, hN⟩ : ∃ N : Nat, (1 : Int) + (d : Int) = (N : Int) ∧ 1 ≤ N ∧ N ≤ 5 := ⟨1 + d, by omega, by omega, by omega⟩
  have e1 := hN.1
  have hN1 := hN.2.1
  have hN5 := hN.2.2
  clear hN
  go_wp2_with fail
  refine (l92Votes_any R (0 + 1) N _ R2.out (by omega) hN5).mono ?_
  rintro e w3 ⟨zs, az, cz, p3, rfl, ho, hzl, hr, hp3, hs⟩
  have O3 := Lib.hid (World.ownsRow.mono ho g2)
  have R3 := Lib.hid hr
  have S3 := Lib.hid (S2.out.trans hs)
  have HZL := Lib.hid hzl
  clear ho hr hs R2 S2 g2 hzl
  go_wp2_with fail
  refine (pick_any R p3 21 _ R3.out (by omega) (by omega) (by omega)).mono ?_
  rintro e w4 ⟨s, rfl, hs21, hr, hs⟩
  have O4 := Lib.hid (owns_step O3.out hs hRG)
  have R4 := Lib.hid hr
  have S4 := Lib.hid (S3.out.trans hs)
  have g4 : G ≤ w4.heap.size := by have := S4.out.size; have := HGS.out; omega
  clear hr hs O3 R3 S3
  go_wp2_with fail
  refine (l91Lots_any R (p3 + 1) (N : Int) _ R4.out (by omega)).mono ?_
  rintro e w5 ⟨lots, al, cl, p5, rfl, hol, hl5, hr, hp5, hs⟩
  have O5 := Lib.hid (owns_step O4.out hs hRG)
  have L5 := Lib.hid (World.ownsRow.mono hol g4)
  have R5 := Lib.hid hr
  have S5 := Lib.hid (S4.out.trans hs)
  clear hol hr hs O4 R4 S4 g4
  go_wp2_with fail
  refine (pick_any R p5 16 _ R5.out (by omega) (by omega) (by omega)).mono ?_
  rintro e w6 ⟨f, rfl, hf, hr, hs⟩
  have O6 := Lib.hid (owns_step O5.out hs hRG)
  have L6 := Lib.hid (owns_step L5.out hs hRG)
  have R6 := Lib.hid hr
  have S6 := Lib.hid (S5.out.trans hs)
  clear hr hs O5 L5 R5 S5
  cases hf0 : ((f : Int) == 0)
  · go_wp2_with fail
    refine (pick_any R (p5 + 1) 2 _ R6.out (by omega) (by omega) (by omega)).mono ?_
    rintro e w7 ⟨m, rfl, hm, hr, hs⟩
    have O7 := Lib.hid (owns_step O6.out hs hRG)
    have L7 := Lib.hid (owns_step L6.out hs hRG)
    have S7 := Lib.hid (S6.out.trans hs)
    clear hr hs O6 L6 R6 S6
    go_wp2
    refine bodyPost_ret (v := .tuple #[.slice az N cz, .int .i64 (s : Int), .int .i64 (1 + (m : Int)), .slice al lots.length cl]) (by simp [results, Try.results9, go_sem]) rfl ?_
    refine ⟨zs, az, cz, _, _, lots, al, cl, by rw [HZL.out], ?_, by rw [HZL.out]; exact hN5, World.ownsRow.mono L7.out ?_, hl5, by omega, by omega, ?_⟩
    · rw [HZL.out]; exact World.ownsRow.mono O7.out (by rw [HR.out]; omega)
    · rw [HR.out]; omega
    · rw [HR.out] at B1 ⊢; exact B1.out.trans (S7.out.below (Nat.le_refl _) (by rw [HGS.out]; omega))
  · have hw6 : R < w6.heap.size := by have := S6.out.size; have := HGS.out; omega
    have hne : w6.heap.size ≠ R := by omega
    go_wp2_with fail
    go_region_law (first
      | (have hR3 := R7.out; go_simp; go_at_call 22; refine (pick_any R (p5 + 1 + 1) 4 _ ?_ (by omega) (by omega) (by omega)).mono ?_; (first | exact hR3 | exact hR3.below ((Below.refl _ w7).alloc (Nat.le_refl _) _)); rintro e w8 ⟨m, rfl, hm, hr4, hs4⟩; clear hR3; (first
          | (have hq := step_cell hs4 L3.out hne (A3.out c (lt_three hc)); have S8 := Lib.hid (S7.out.trans hs4); clear hr4 hs4)
          | (have hq := s3_step hs4 (new_not S7.out hw6) (lt_three hc); have S8 := Lib.hid (step_on S7.out hs4); clear hr4 hs4)
          | (have hq := s3_cell w8 3 c (lt_three hc); have S8 := Lib.hid (S7.out.trans hs4); clear hr4 hs4)))
      | (go_simp; go_at_call 22; refine (pick_any R (p5 + 1) 3 _ ?_ (by omega) (by omega) (by omega)).mono ?_; (first | exact R6.out | exact R6.out.below ((Below.refl _ w6).alloc (Nat.le_refl _) _).drew); rintro e w7 ⟨c, rfl, hc, hr3, hs3⟩; have R7 := Lib.hid hr3; have hgc := s3_get c (lt_three hc); (first
          | (have A3 : Hid (∀ d, d < 3 → w7.cell? ⟨w6.heap.size, d, none⟩ = some (.int .i64 (s3 d))) := (fun d hd => s3_step_drew hs3 hne hd); have L3 := Lib.hid (old_lt hs3); have hy1 := A3.out c (lt_three hc); have S7 := Lib.hid (step_over hs3); clear hr3 hs3)
          | (have hy2 := s3_cell w7 3 c (lt_three hc); have S7 := Lib.hid (Step.of_drew hs3); clear hr3 hs3))))
    all_goals
      have hqr := s3_range c
      have O8 := Lib.hid (owns_step O6.out S8.out hRG)
      have L8 := Lib.hid (owns_step L6.out S8.out hRG)
      have S9 := Lib.hid (S6.out.trans S8.out)
      have B9 : Hid (Below w.heap.size w w8) := by
        unfold Hid; rw [HR.out] at B1 ⊢; exact B1.out.trans (S9.out.below (Nat.le_refl _) (by rw [HGS.out]; omega))
      have hB9 := B9.out.size
      clear hq
      go_wp2
      refine bodyPost_ret (v := .tuple #[.slice az N cz, .int .i64 (s3 c), .int .i64 (m : Int), .slice al lots.length cl]) (by simp [results, Try.results9, go_sem]) rfl ?_
      first
        | exact ⟨zs, az, cz, _, _, lots, al, cl, by rw [HZL.out], by rw [HZL.out]; exact World.ownsRow.mono O8.out (by rw [HR.out]; omega), by rw [HZL.out]; exact hN5, World.ownsRow.mono L8.out (by rw [HR.out]; omega), hl5, hqr, by omega, B9.out⟩
        | exact ⟨zs, az, cz, _, _, lots, al, cl, by rw [HZL.out], by rw [HZL.out]; exact World.ownsRow.mono (O8.out.alloc _) (by rw [HR.out]; omega), by rw [HZL.out]; exact hN5, World.ownsRow.mono (L8.out.alloc _) (by rw [HR.out]; omega), hl5, hqr, by omega, B9.out.alloc hB9 _⟩

end Go.Proofs.Ytgcocdacofpglaa
