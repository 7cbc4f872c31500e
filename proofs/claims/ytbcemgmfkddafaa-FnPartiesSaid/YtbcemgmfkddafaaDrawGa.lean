/-
  The drawn cases of measures (DrawShareGap, DrawShareSquares, DrawShareHurdle, DrawShareParties): lists in memory of the call's own, of any numbers.
-/
import Derived.Test.YtbcemgmfkddafaaDrawSr
namespace Go.Proofs.Ytbcemgmfkddafaa
open Go.RowKit

attribute [local go_sem] Oper.semAt_some

set_option maxHeartbeats 2000000 in
/-- **DrawShareGap**. -/
theorem drawGap_any (a : Option Addr) (len cap : Nat) (bs : List Int) (w : World) (h : IsBytes w a len bs) (hcap : len ≤ cap) (hl : len ≤ 1048600) :
    Calls Try.prog 15 #[.slice a len cap] w (DrewSF w) := by
  have H := Lib.hid h; clear h
  go_enter Try.func15, Try.ntmps15
  go_wp2_with fail
  refine (drawFair_any a len cap bs _ H.out hcap hl).mono ?_
  rintro e w1 ⟨zs, av, cv, gs, ag, cg, rfl, hd⟩
  go_wp2
  refine bodyPost_ret (v := .tuple #[.slice av zs.length cv, .slice ag gs.length cg]) (by simp [results, Try.results15, go_sem]) rfl ?_
  exact ⟨zs, av, cv, gs, ag, cg, rfl, hd⟩

set_option maxHeartbeats 2000000 in
/-- **DrawShareSquares**. -/
theorem drawSqs_any (a : Option Addr) (len cap : Nat) (bs : List Int) (w : World) (h : IsBytes w a len bs) (hcap : len ≤ cap) (hl : len ≤ 1048600) :
    Calls Try.prog 19 #[.slice a len cap] w (DrewSF w) := by
  have H := Lib.hid h; clear h
  go_enter Try.func19, Try.ntmps19
  go_wp2_with fail
  refine (drawFair_any a len cap bs _ H.out hcap hl).mono ?_
  rintro e w1 ⟨zs, av, cv, gs, ag, cg, rfl, hd⟩
  go_wp2
  refine bodyPost_ret (v := .tuple #[.slice av zs.length cv, .slice ag gs.length cg]) (by simp [results, Try.results19, go_sem]) rfl ?_
  exact ⟨zs, av, cv, gs, ag, cg, rfl, hd⟩

/-- What is drawn of votes and a hurdle. -/
def DrewSH (w : World) (e : Ending) (w' : World) : Prop := ∃ (zs : List Int) (a : Option Addr) (c : Nat) (p : Int), e = .returned (.tuple #[.slice a zs.length c, .int .i64 p]) ∧
  w'.ownsRow w.heap.size 3 1 (.slice a zs.length c) zs.length (zs.map (Value.int .i64)) ∧ zs.length ≤ 5 ∧ (-1 ≤ p ∧ p ≤ 101) ∧ Below w.heap.size w w'
/-- What is drawn of votes. -/
def DrewSP (w : World) (e : Ending) (w' : World) : Prop := ∃ (zs : List Int) (a : Option Addr) (c : Nat), e = .returned (.slice a zs.length c) ∧
  w'.ownsRow w.heap.size 3 1 (.slice a zs.length c) zs.length (zs.map (Value.int .i64)) ∧ zs.length ≤ 5 ∧ Below w.heap.size w w'
def h5 (d : Nat) : Int := if d = 0 then -1 else if d = 1 then 0 else if d = 2 then 100 else if d = 3 then 101 else 50
theorem h5_cell (w : World) (t : TypeId) (d : Nat) (h : d < 5) : (w.alloc (.cells #[.int .i64 (-1), .int .i64 0, .int .i64 100, .int .i64 101, .int .i64 50] t)).cell? ⟨w.heap.size, d, none⟩ = some (.int .i64 (h5 d)) := by
  refine (World.cell?_alloc_mark w _ t (0, 0) d).trans ?_
  have e : d = 0 ∨ d = 1 ∨ d = 2 ∨ d = 3 ∨ d = 4 := by omega
  rcases e with rfl | rfl | rfl | rfl | rfl <;> simp [h5]
theorem h5_range (d : Nat) : -1 ≤ h5 d ∧ h5 d ≤ 101 := by
  unfold h5
  rcases d with _ | _ | _ | _ | d <;> simp
theorem h5_step {R : Nat} {w w' : World} {t : TypeId} (hs : Step R (w.alloc (.cells #[.int .i64 (-1), .int .i64 0, .int .i64 100, .int .i64 101, .int .i64 50] t)) w') (hR : w.heap.size ≠ R) {d : Nat} (hd : d < 5) : w'.cell? ⟨w.heap.size, d, none⟩ = some (.int .i64 (h5 d)) :=
  step_cell hs (by simp) hR (h5_cell w t d hd)
theorem h5_step_drew {R : Nat} {w w' : World} {t : TypeId} (hs : Step R (w.alloc (.cells #[.int .i64 (-1), .int .i64 0, .int .i64 100, .int .i64 101, .int .i64 50] t)).drew w') (hR : w.heap.size ≠ R) {d : Nat} (hd : d < 5) : w'.cell? ⟨w.heap.size, d, none⟩ = some (.int .i64 (h5 d)) :=
  h5_step (Step.of_drew hs) hR hd
theorem h5_get (d : Nat) (h : d < 5) : ([Value.int .i64 (-1), .int .i64 0, .int .i64 100, .int .i64 101, .int .i64 50] : List Value)[d]? = some (.int .i64 (h5 d)) := by
  have e : d = 0 ∨ d = 1 ∨ d = 2 ∨ d = 3 ∨ d = 4 := by omega
  rcases e with rfl | rfl | rfl | rfl | rfl <;> simp [h5]
theorem lt_five {d : Nat} (h : (d : Int) < 5) : d < 5 := by omega

set_option maxHeartbeats 4000000 in
/-- **DrawShareParties**. -/
theorem drawPar_any (a : Option Addr) (len cap : Nat) (bs : List Int) (w : World) (h : IsBytes w a len bs) (hcap : len ≤ cap) (hl : len ≤ 1048600) :
    Calls Try.prog 28 #[.slice a len cap] w (DrewSP w) := by
  have H := Lib.hid h; clear h
  go_enter Try.func28, Try.ntmps28
  go_wp2_with fail
  refine (open_any a len cap bs _ H.out hcap hl).mono ?_
  rintro e w1 ⟨rfl, hr, hb⟩
  obtain ⟨R, hR⟩ : ∃ R, w.heap.size = R := ⟨_, rfl⟩
  rw [hR] at hr ⊢
  have hRG : R < w1.heap.size := hr.1
  obtain ⟨G, hG⟩ : ∃ G, w1.heap.size = G := ⟨_, rfl⟩
  rw [hG] at hRG
  have HGS := Lib.hid hG
  have R1 := Lib.hid hr
  have B1 := Lib.hid hb
  have HR := Lib.hid hR
  clear hr hb hG hR
  go_wp2_with fail
  refine (pick_any R 0 6 _ R1.out (by omega) (by omega) (by omega)).mono ?_
  rintro e w2 ⟨d, rfl, hd, hr, hs⟩
  have R2 := Lib.hid hr
  have S2 := Lib.hid hs
  have g2 : G ≤ w2.heap.size := by have := hs.size; have := HGS.out; omega
  clear hr hs R1
  have hN5 : d ≤ 5 := by omega
  go_wp2_with fail
  refine (l92Votes_any R (0 + 1) d _ R2.out (by omega) hN5).mono ?_
  rintro e w3 ⟨zs, az, cz, p3, rfl, ho, hzl, hr, hp3, hs⟩
  have O3 := Lib.hid (World.ownsRow.mono ho g2)
  have R3 := Lib.hid hr
  have S3 := Lib.hid (S2.out.trans hs)
  have HZL := Lib.hid hzl
  clear ho hr hs R2 S2 g2 hzl
  go_wp2
  refine bodyPost_ret (v := .slice az d cz) (by simp [results, Try.results28, go_sem]) rfl ?_
  refine ⟨zs, az, cz, by rw [HZL.out], ?_, by rw [HZL.out]; exact hN5, ?_⟩
  · rw [HZL.out]; exact World.ownsRow.mono O3.out (by rw [HR.out]; omega)
  · rw [HR.out] at B1 ⊢; exact B1.out.trans (S3.out.below (Nat.le_refl _) (by rw [HGS.out]; omega))

set_option maxRecDepth 100000 in
set_option maxHeartbeats 4000000 in
/-- **DrawShareHurdle**. -/
theorem drawHur_any (a : Option Addr) (len cap : Nat) (bs : List Int) (w : World) (h : IsBytes w a len bs) (hcap : len ≤ cap) (hl : len ≤ 1048600) :
    Calls Try.prog 24 #[.slice a len cap] w (DrewSH w) := by
  have H := Lib.hid h; clear h
  go_enter Try.func24, Try.ntmps24
  go_wp2_with fail
  refine (open_any a len cap bs _ H.out hcap hl).mono ?_
  rintro e w1 ⟨rfl, hr, hb⟩
  obtain ⟨R, hR⟩ : ∃ R, w.heap.size = R := ⟨_, rfl⟩
  rw [hR] at hr ⊢
  have hRG : R < w1.heap.size := hr.1
  obtain ⟨G, hG⟩ : ∃ G, w1.heap.size = G := ⟨_, rfl⟩
  rw [hG] at hRG
  have HGS := Lib.hid hG
  have R1 := Lib.hid hr
  have B1 := Lib.hid hb
  have HR := Lib.hid hR
  clear hr hb hG hR
  go_wp2_with fail
  refine (pick_any R 0 5 _ R1.out (by omega) (by omega) (by omega)).mono ?_
  rintro e w2 ⟨d, rfl, hd, hr, hs⟩
  have R2 := Lib.hid hr
  have S2 := Lib.hid hs
  have g2 : G ≤ w2.heap.size := by have := hs.size; have := HGS.out; omega
  clear hr hs R1
  obtain ⟨N, hN⟩ : ∃ N : Nat, (1 : Int) + (d : Int) = (N : Int) ∧ 1 ≤ N ∧ N ≤ 5 := ⟨1 + d, by omega, by omega, by omega⟩
  have e1 := hN.1
  have hN1 := hN.2.1
  have hN5 := hN.2.2
  clear hN
  go_wp2_with fail
  refine (l92Votes_any R (0 + 1) N _ R2.out (by omega) hN5).mono ?_
  rintro e w3 ⟨zs, az, cz, p3, rfl, ho, hzl, hr, hp3, hs⟩
  have O3 := Lib.hid (World.ownsRow.mono ho g2)
  have R3 := Lib.hid hr
  have S3 := Lib.hid (S2.out.trans hs)
  have HZL := Lib.hid hzl
  clear ho hr hs R2 S2 g2 hzl
  go_wp2_with fail
  refine (pick_any R p3 10 _ R3.out (by omega) (by omega) (by omega)).mono ?_
  rintro e w4 ⟨f, rfl, hf, hr, hs⟩
  have O4 := Lib.hid (owns_step O3.out hs hRG)
  have R4 := Lib.hid hr
  have S4 := Lib.hid (S3.out.trans hs)
  clear hr hs O3 R3 S3
  cases hf0 : ((f : Int) == 0)
  · go_wp2_with fail
    refine (pick_any R (p3 + 1) 30 _ R4.out (by omega) (by omega) (by omega)).mono ?_
    rintro e w5 ⟨m, rfl, hm, hr, hs⟩
    have O5 := Lib.hid (owns_step O4.out hs hRG)
    have S5 := Lib.hid (S4.out.trans hs)
    clear hr hs O4 R4 S4
    go_wp2
    refine bodyPost_ret (v := .tuple #[.slice az N cz, .int .i64 (m : Int)]) (by simp [results, Try.results24, go_sem]) rfl ?_
    refine ⟨zs, az, cz, _, by rw [HZL.out], ?_, by rw [HZL.out]; exact hN5, by omega, ?_⟩
    · rw [HZL.out]; exact World.ownsRow.mono O5.out (by rw [HR.out]; omega)
    · rw [HR.out] at B1 ⊢; exact B1.out.trans (S5.out.below (Nat.le_refl _) (by rw [HGS.out]; omega))
  · have hw4 : R < w4.heap.size := by have := S4.out.size; have := HGS.out; omega
    have hne : w4.heap.size ≠ R := by omega
    go_wp2_with fail
    go_region_law (go_simp; go_at_call 56; refine (pick_any R (p3 + 1) 5 _ ?_ (by omega) (by omega) (by omega)).mono ?_; (first | exact R4.out | exact R4.out.below ((Below.refl _ w4).alloc (Nat.le_refl _) _).drew | exact R4.out.below ((Below.refl _ w4).alloc (Nat.le_refl _) _)); rintro e w5 ⟨c, rfl, hc, hr, hs⟩; have hgc := h5_get c (lt_five hc); (first
          | (have hy1 := h5_step_drew hs hne (lt_five hc); have S5 := Lib.hid (step_over hs); clear hr hs)
          | (have hy1 := h5_step hs hne (lt_five hc); have S5 := Lib.hid (step_under hs); clear hr hs)
          | (have hy2 := h5_cell w5 3 c (lt_five hc); have S5 := Lib.hid (Step.of_drew hs); clear hr hs)
          | (have hy2 := h5_cell w5 3 c (lt_five hc); have S5 := Lib.hid hs; clear hr hs)))
    all_goals
      have hqr := h5_range c
      have O8 := Lib.hid (owns_step O4.out S5.out hRG)
      have S9 := Lib.hid (S4.out.trans S5.out)
      have B9 : Hid (Below w.heap.size w w5) := by
        unfold Hid; rw [HR.out] at B1 ⊢; exact B1.out.trans (S9.out.below (Nat.le_refl _) (by rw [HGS.out]; omega))
      have hB9 := B9.out.size
      go_wp2
      refine bodyPost_ret (v := .tuple #[.slice az N cz, .int .i64 (h5 c)]) (by simp [results, Try.results24, go_sem]) rfl ?_
      first
        | exact ⟨zs, az, cz, _, by rw [HZL.out], by rw [HZL.out]; exact World.ownsRow.mono O8.out (by rw [HR.out]; omega), by rw [HZL.out]; exact hN5, hqr, B9.out⟩
        | exact ⟨zs, az, cz, _, by rw [HZL.out], by rw [HZL.out]; exact World.ownsRow.mono (O8.out.alloc _) (by rw [HR.out]; omega), by rw [HZL.out]; exact hN5, hqr, B9.out.alloc hB9 _⟩

end Go.Proofs.Ytbcemgmfkddafaa
