/-
  What the drawn statements of the next seat and of the check get (DrawSeatsNext, DrawSeatsCheck): votes, seats, a method, lots.
-/
import Derived.Test.YtafnmongglhlaabDrawSg
namespace Go.Proofs.Ytafnmongglhlaab
open Go.RowKit

attribute [local go_sem] Oper.semAt_some

/-- What is drawn of votes, seats, a method and lots. -/
def DrewSN (w : World) (e : Ending) (w' : World) : Prop := ∃ (zs : List Int) (a : Option Addr) (c : Nat) (gs : List Int) (a' : Option Addr) (c' : Nat) (m : Int) (lots : List Int) (al : Option Addr) (cl : Nat), e = .returned (.tuple #[.slice a zs.length c, .slice a' gs.length c', .int .i64 m, .slice al lots.length cl]) ∧
  w'.ownsRow w.heap.size 3 1 (.slice a zs.length c) zs.length (zs.map (Value.int .i64)) ∧ zs.length ≤ 5 ∧ w'.ownsRow w.heap.size 3 1 (.slice a' gs.length c') gs.length (gs.map (Value.int .i64)) ∧ gs.length ≤ 5 ∧ w'.ownsRow w.heap.size 3 1 (.slice al lots.length cl) lots.length (lots.map (Value.int .i64)) ∧ lots.length ≤ 5 ∧ (0 ≤ m ∧ m ≤ 3) ∧ Below w.heap.size w w'
/-- What is drawn of votes, seats and a method. -/
def DrewSC (w : World) (e : Ending) (w' : World) : Prop := ∃ (zs : List Int) (a : Option Addr) (c : Nat) (gs : List Int) (a' : Option Addr) (c' : Nat) (m : Int), e = .returned (.tuple #[.slice a zs.length c, .slice a' gs.length c', .int .i64 m]) ∧
  w'.ownsRow w.heap.size 3 1 (.slice a zs.length c) zs.length (zs.map (Value.int .i64)) ∧ zs.length ≤ 5 ∧ w'.ownsRow w.heap.size 3 1 (.slice a' gs.length c') gs.length (gs.map (Value.int .i64)) ∧ gs.length ≤ 5 ∧ (0 ≤ m ∧ m ≤ 3) ∧ Below w.heap.size w w'

set_option maxRecDepth 100000 in
set_option maxHeartbeats 4000000 in
/-- **DrawSeatsNext**. -/
theorem drawNext_any (a : Option Addr) (len cap : Nat) (bs : List Int) (w : World) (h : IsBytes w a len bs) (hcap : len ≤ cap) (hl : len ≤ 1048600) :
    Calls Try.prog 22 #[.slice a len cap] w (DrewSN w) := by
  have H := Lib.hid h; clear h
  go_enter Try.func22, Try.ntmps22
  go_wp2_with fail
  refine (open_any a len cap bs _ H.out hcap hl).mono ?_
  rintro e w1 ⟨rfl, hr, hb⟩
  obtain ⟨R, hR⟩ : ∃ R, w.heap.size = R := ⟨_, rfl⟩
  rw [hR] at hr ⊢
  have hRG : R < w1.heap.size := hr.1
  obtain ⟨G, hG⟩ : ∃ G, w1.heap.size = G := ⟨_, rfl⟩
  rw [hG] at hRG
  have HGS := Lib.hid hG
  have R1 := Lib.hid hr
  have B1 := Lib.hid hb
  have HR := Lib.hid hR
  clear hr hb hG hR
  go_wp2_with fail
  refine (pick_any R 0 5 _ R1.out (by omega) (by omega) (by omega)).mono ?_
  rintro e w2 ⟨d, rfl, hd, hr, hs⟩
  have R2 := Lib.hid hr
  have S2 := Lib.hid hs
  have g2 : G ≤ w2.heap.size := by have := hs.size; have := HGS.out; omega
  clear hr hs R1
  obtain ⟨N, hN⟩ : ∃ N : Nat, (1 : Int) + (d : Int) = (N : Int) ∧ 1 ≤ N ∧ N ≤ 5 := ⟨1 + d, by omega, by omega, by omega⟩
  have e1 := hN.1
  have hN1 := hN.2.1
  have hN5 := hN.2.2
  clear hN
  go_wp2_with fail
  refine (l92Votes_any R (0 + 1) N _ R2.out (by omega) hN5).mono ?_
  rintro e w3 ⟨zs, az, cz, p3, rfl, ho, hzl, hr, hp3, hs⟩
  have O3 := Lib.hid (World.ownsRow.mono ho g2)
  have R3 := Lib.hid hr
  have S3 := Lib.hid (S2.out.trans hs)
  have HZL := Lib.hid hzl
  clear ho hr hs R2 S2 g2 hzl
  go_wp2_with fail
  refine (pick_any R p3 2 _ R3.out (by omega) (by omega) (by omega)).mono ?_
  rintro e w4 ⟨m1, rfl, hm1, hr, hs⟩
  have O4 := Lib.hid (owns_step O3.out hs hRG)
  have R4 := Lib.hid hr
  have S4 := Lib.hid (S3.out.trans hs)
  have g4 : G ≤ w4.heap.size := by have := S4.out.size; have := HGS.out; omega
  clear hr hs O3 R3 S3
  go_wp2_with fail
  refine (l92Given_any R (p3 + 1) N az cz zs (1 + (m1 : Int)) G _ R4.out (by omega) hN5 O4.out hRG).mono ?_
  rintro e w5 ⟨gs, ag, cg, ng, p5, rfl, hog, hgl, hg5, hr, hp5, hs⟩
  have O5 := Lib.hid (owns_step O4.out hs hRG)
  have G5 := Lib.hid (World.ownsRow.mono hog g4)
  have R5 := Lib.hid hr
  have S5 := Lib.hid (S4.out.trans hs)
  have HGL := Lib.hid hgl
  clear hog hr hs O4 R4 S4 g4 hgl
  go_wp2_with fail
  refine (pick_any R p5 20 _ R5.out (by omega) (by omega) (by omega)).mono ?_
  rintro e w6 ⟨f, rfl, hf, hr, hs⟩
  have O6 := Lib.hid (owns_step O5.out hs hRG)
  have G6 := Lib.hid (owns_step G5.out hs hRG)
  have R6 := Lib.hid hr
  have S6 := Lib.hid (S5.out.trans hs)
  clear hr hs O5 G5 R5 S5
  cases hf0 : ((f : Int) == 0)
  · skip
    have g6 : G ≤ w6.heap.size := by have := S6.out.size; have := HGS.out; omega
    go_wp2_with fail
    refine (l91Lots_any R (p5 + 1) (N : Int) _ R6.out (by omega)).mono ?_
    rintro e w8 ⟨lots, al, cl, p8, rfl, hol, hl5, hr, hp8, hs⟩
    have O8 := Lib.hid (owns_step O6.out hs hRG)
    have G8 := Lib.hid (owns_step G6.out hs hRG)
    have L8 := Lib.hid (World.ownsRow.mono hol g6)
    have S8 := Lib.hid (S6.out.trans hs)
    clear hol hr hs g6
    go_wp2
    refine bodyPost_ret (v := .tuple #[.slice az N cz, .slice ag ng cg, .int .i64 (1 + (m1 : Int)), .slice al lots.length cl]) (by simp [results, Try.results22, go_sem]) rfl ?_
    refine ⟨zs, az, cz, gs, ag, cg, _, lots, al, cl, by rw [HZL.out, HGL.out], ?_, by rw [HZL.out]; exact hN5, ?_, by rw [HGL.out]; exact hg5, World.ownsRow.mono L8.out (by rw [HR.out]; omega), hl5, by omega, ?_⟩
    · rw [HZL.out]; exact World.ownsRow.mono O8.out (by rw [HR.out]; omega)
    · rw [HGL.out]; exact World.ownsRow.mono G8.out (by rw [HR.out]; omega)
    · rw [HR.out] at B1 ⊢; exact B1.out.trans (S8.out.below (Nat.le_refl _) (by rw [HGS.out]; omega))
  · go_wp2_with fail
    refine (pick_any R (p5 + 1) 4 _ R6.out (by omega) (by omega) (by omega)).mono ?_
    rintro e w6b ⟨m2, rfl, hm2, hr, hs⟩
    have O7 := Lib.hid (owns_step O6.out hs hRG)
    have G7 := Lib.hid (owns_step G6.out hs hRG)
    have R7 := Lib.hid hr
    have S7 := Lib.hid (S6.out.trans hs)
    clear hr hs O6 G6 R6 S6
    have g6 : G ≤ w6b.heap.size := by have := S7.out.size; have := HGS.out; omega
    go_wp2_with fail
    refine (l91Lots_any R (p5 + 1 + 1) (N : Int) _ R7.out (by omega)).mono ?_
    rintro e w8 ⟨lots, al, cl, p8, rfl, hol, hl5, hr, hp8, hs⟩
    have O8 := Lib.hid (owns_step O7.out hs hRG)
    have G8 := Lib.hid (owns_step G7.out hs hRG)
    have L8 := Lib.hid (World.ownsRow.mono hol g6)
    have S8 := Lib.hid (S7.out.trans hs)
    clear hol hr hs g6
    go_wp2
    refine bodyPost_ret (v := .tuple #[.slice az N cz, .slice ag ng cg, .int .i64 (m2 : Int), .slice al lots.length cl]) (by simp [results, Try.results22, go_sem]) rfl ?_
    refine ⟨zs, az, cz, gs, ag, cg, _, lots, al, cl, by rw [HZL.out, HGL.out], ?_, by rw [HZL.out]; exact hN5, ?_, by rw [HGL.out]; exact hg5, World.ownsRow.mono L8.out (by rw [HR.out]; omega), hl5, by omega, ?_⟩
    · rw [HZL.out]; exact World.ownsRow.mono O8.out (by rw [HR.out]; omega)
    · rw [HGL.out]; exact World.ownsRow.mono G8.out (by rw [HR.out]; omega)
    · rw [HR.out] at B1 ⊢; exact B1.out.trans (S8.out.below (Nat.le_refl _) (by rw [HGS.out]; omega))

set_option maxRecDepth 100000 in
set_option maxHeartbeats 4000000 in
/-- **DrawSeatsCheck**. -/
theorem drawCheck_any (a : Option Addr) (len cap : Nat) (bs : List Int) (w : World) (h : IsBytes w a len bs) (hcap : len ≤ cap) (hl : len ≤ 1048600) :
    Calls Try.prog 24 #[.slice a len cap] w (DrewSC w) := by
  have H := Lib.hid h; clear h
  go_enter Try.func24, Try.ntmps24
  go_wp2_with fail
  refine (open_any a len cap bs _ H.out hcap hl).mono ?_
  rintro e w1 ⟨rfl, hr, hb⟩
  obtain ⟨R, hR⟩ : ∃ R, w.heap.size = R := ⟨_, rfl⟩
  rw [hR] at hr ⊢
  have hRG : R < w1.heap.size := hr.1
  obtain ⟨G, hG⟩ : ∃ G, w1.heap.size = G := ⟨_, rfl⟩
  rw [hG] at hRG
  have HGS := Lib.hid hG
  have R1 := Lib.hid hr
  have B1 := Lib.hid hb
  have HR := Lib.hid hR
  clear hr hb hG hR
  go_wp2_with fail
  refine (pick_any R 0 5 _ R1.out (by omega) (by omega) (by omega)).mono ?_
  rintro e w2 ⟨d, rfl, hd, hr, hs⟩
  have R2 := Lib.hid hr
  have S2 := Lib.hid hs
  have g2 : G ≤ w2.heap.size := by have := hs.size; have := HGS.out; omega
  clear hr hs R1
  obtain ⟨N, hN⟩ : ∃ N : Nat, (1 : Int) + (d : Int) = (N : Int) ∧ 1 ≤ N ∧ N ≤ 5 := ⟨1 + d, by omega, by omega, by omega⟩
  have e1 := hN.1
  have hN1 := hN.2.1
  have hN5 := hN.2.2
  clear hN
  go_wp2_with fail
  refine (l92Votes_any R (0 + 1) N _ R2.out (by omega) hN5).mono ?_
  rintro e w3 ⟨zs, az, cz, p3, rfl, ho, hzl, hr, hp3, hs⟩
  have O3 := Lib.hid (World.ownsRow.mono ho g2)
  have R3 := Lib.hid hr
  have S3 := Lib.hid (S2.out.trans hs)
  have HZL := Lib.hid hzl
  clear ho hr hs R2 S2 g2 hzl
  go_wp2_with fail
  refine (pick_any R p3 2 _ R3.out (by omega) (by omega) (by omega)).mono ?_
  rintro e w4 ⟨m1, rfl, hm1, hr, hs⟩
  have O4 := Lib.hid (owns_step O3.out hs hRG)
  have R4 := Lib.hid hr
  have S4 := Lib.hid (S3.out.trans hs)
  have g4 : G ≤ w4.heap.size := by have := S4.out.size; have := HGS.out; omega
  clear hr hs O3 R3 S3
  go_wp2_with fail
  refine (l92Given_any R (p3 + 1) N az cz zs (1 + (m1 : Int)) G _ R4.out (by omega) hN5 O4.out hRG).mono ?_
  rintro e w5 ⟨gs, ag, cg, ng, p5, rfl, hog, hgl, hg5, hr, hp5, hs⟩
  have O5 := Lib.hid (owns_step O4.out hs hRG)
  have G5 := Lib.hid (World.ownsRow.mono hog g4)
  have R5 := Lib.hid hr
  have S5 := Lib.hid (S4.out.trans hs)
  have HGL := Lib.hid hgl
  clear hog hr hs O4 R4 S4 g4 hgl
  go_wp2_with fail
  refine (pick_any R p5 20 _ R5.out (by omega) (by omega) (by omega)).mono ?_
  rintro e w6 ⟨f, rfl, hf, hr, hs⟩
  have O6 := Lib.hid (owns_step O5.out hs hRG)
  have G6 := Lib.hid (owns_step G5.out hs hRG)
  have R6 := Lib.hid hr
  have S6 := Lib.hid (S5.out.trans hs)
  clear hr hs O5 G5 R5 S5
  cases hf0 : ((f : Int) == 0)
  · skip
    go_wp2
    refine bodyPost_ret (v := .tuple #[.slice az N cz, .slice ag ng cg, .int .i64 (1 + (m1 : Int))]) (by simp [results, Try.results24, go_sem]) rfl ?_
    refine ⟨zs, az, cz, gs, ag, cg, _, by rw [HZL.out, HGL.out], ?_, by rw [HZL.out]; exact hN5, ?_, by rw [HGL.out]; exact hg5, by omega, ?_⟩
    · rw [HZL.out]; exact World.ownsRow.mono O6.out (by rw [HR.out]; omega)
    · rw [HGL.out]; exact World.ownsRow.mono G6.out (by rw [HR.out]; omega)
    · rw [HR.out] at B1 ⊢; exact B1.out.trans (S6.out.below (Nat.le_refl _) (by rw [HGS.out]; omega))
  · go_wp2_with fail
    refine (pick_any R (p5 + 1) 4 _ R6.out (by omega) (by omega) (by omega)).mono ?_
    rintro e w6b ⟨m2, rfl, hm2, hr, hs⟩
    have O7 := Lib.hid (owns_step O6.out hs hRG)
    have G7 := Lib.hid (owns_step G6.out hs hRG)
    have R7 := Lib.hid hr
    have S7 := Lib.hid (S6.out.trans hs)
    clear hr hs O6 G6 R6 S6
    go_wp2
    refine bodyPost_ret (v := .tuple #[.slice az N cz, .slice ag ng cg, .int .i64 (m2 : Int)]) (by simp [results, Try.results24, go_sem]) rfl ?_
    refine ⟨zs, az, cz, gs, ag, cg, _, by rw [HZL.out, HGL.out], ?_, by rw [HZL.out]; exact hN5, ?_, by rw [HGL.out]; exact hg5, by omega, ?_⟩
    · rw [HZL.out]; exact World.ownsRow.mono O7.out (by rw [HR.out]; omega)
    · rw [HGL.out]; exact World.ownsRow.mono G7.out (by rw [HR.out]; omega)
    · rw [HR.out] at B1 ⊢; exact B1.out.trans (S7.out.below (Nat.le_refl _) (by rw [HGS.out]; omega))

end Go.Proofs.Ytafnmongglhlaab
