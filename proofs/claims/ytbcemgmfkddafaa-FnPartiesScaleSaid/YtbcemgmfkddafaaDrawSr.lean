/-
  What the drawn statements of remainders, shares and fair seats get (DrawSeatsRemainder, DrawSeatsQuota, DrawSeatsFair).
-/
import Derived.Test.YtbcemgmfkddafaaDrawSd
import Derived.Test.YtbcemgmfkddafaaDrawSg
import Derived.Test.YtbcemgmfkddafaaRemU
namespace Go.Proofs.Ytbcemgmfkddafaa
open Go.RowKit

attribute [local go_sem] Oper.semAt_some

theorem remL_at5 {vs : List Int} (h : vs.length ≤ 5) (s : Int) (lots : List Int) : (remL vs s lots).length ≤ 5 := by
  unfold remL
  split
  · rw [upL_length]; exact h
  · simp
/-- What is drawn of votes, seats and lots. -/
def DrewSR (w : World) (e : Ending) (w' : World) : Prop := ∃ (zs : List Int) (a : Option Addr) (c : Nat) (s : Int) (lots : List Int) (al : Option Addr) (cl : Nat), e = .returned (.tuple #[.slice a zs.length c, .int .i64 s, .slice al lots.length cl]) ∧
  w'.ownsRow w.heap.size 3 1 (.slice a zs.length c) zs.length (zs.map (Value.int .i64)) ∧ zs.length ≤ 5 ∧ w'.ownsRow w.heap.size 3 1 (.slice al lots.length cl) lots.length (lots.map (Value.int .i64)) ∧ lots.length ≤ 5 ∧ Below w.heap.size w w'
/-- What is drawn of votes, seats and a party. -/
def DrewSQ (w : World) (e : Ending) (w' : World) : Prop := ∃ (zs : List Int) (a : Option Addr) (c : Nat) (s p : Int), e = .returned (.tuple #[.slice a zs.length c, .int .i64 s, .int .i64 p]) ∧
  w'.ownsRow w.heap.size 3 1 (.slice a zs.length c) zs.length (zs.map (Value.int .i64)) ∧ zs.length ≤ 5 ∧ (-1 ≤ s ∧ s ≤ 22) ∧ (-1 ≤ p ∧ p ≤ 6) ∧ Below w.heap.size w w'
/-- What is drawn of votes and seats. -/
def DrewSF (w : World) (e : Ending) (w' : World) : Prop := ∃ (zs : List Int) (a : Option Addr) (c : Nat) (gs : List Int) (a' : Option Addr) (c' : Nat), e = .returned (.tuple #[.slice a zs.length c, .slice a' gs.length c']) ∧
  w'.ownsRow w.heap.size 3 1 (.slice a zs.length c) zs.length (zs.map (Value.int .i64)) ∧ zs.length ≤ 5 ∧ w'.ownsRow w.heap.size 3 1 (.slice a' gs.length c') gs.length (gs.map (Value.int .i64)) ∧ gs.length ≤ 5 ∧ Below w.heap.size w w'

set_option maxRecDepth 100000 in
set_option maxHeartbeats 8000000 in
/-- **DrawSeatsFair**. -/
theorem drawFair_any (a : Option Addr) (len cap : Nat) (bs : List Int) (w : World) (h : IsBytes w a len bs) (hcap : len ≤ cap) (hl : len ≤ 1048600) :
    Calls Try.prog 37 #[.slice a len cap] w (DrewSF w) := by
  have H := Lib.hid h; clear h
  go_enter Try.func37, Try.ntmps37
  go_wp2_with fail
  refine (open_any a len cap bs _ H.out hcap hl).mono ?_
  rintro e w1 ⟨rfl, hr, hb⟩
  obtain ⟨R, hR⟩ : ∃ R, w.heap.size = R := ⟨_, rfl⟩
  rw [hR] at hr ⊢
  have hRG : R < w1.heap.size := hr.1
  obtain ⟨G, hG⟩ : ∃ G, w1.heap.size = G := ⟨_, rfl⟩
  rw [hG] at hRG
  have HGS := Lib.hid hG
  have R1 := Lib.hid hr
  have B1 := Lib.hid hb
  have HR := Lib.hid hR
  clear hr hb hG hR
  go_wp2_with fail
  refine (pick_any R 0 5 _ R1.out (by omega) (by omega) (by omega)).mono ?_
  rintro e w2 ⟨d, rfl, hd, hr, hs⟩
  have R2 := Lib.hid hr
  have S2 := Lib.hid hs
  have g2 : G ≤ w2.heap.size := by have := hs.size; have := HGS.out; omega
  clear hr hs R1
  obtain ⟨N, hN⟩ : ∃ N : Nat, (1 : Int) + (d : Int) = (N : Int) ∧ 1 ≤ N ∧ N ≤ 5 := ⟨1 + d, by omega, by omega, by omega⟩
  have e1 := hN.1
  have hN1 := hN.2.1
  have hN5 := hN.2.2
  clear hN
  go_wp2_with fail
  refine (l92Votes_any R (0 + 1) N _ R2.out (by omega) hN5).mono ?_
  rintro e w3 ⟨zs, az, cz, p3, rfl, ho, hzl, hr, hp3, hs⟩
  have O3 := Lib.hid (World.ownsRow.mono ho g2)
  have R3 := Lib.hid hr
  have S3 := Lib.hid (S2.out.trans hs)
  have HZL := Lib.hid hzl
  clear ho hr hs R2 S2 g2 hzl
  go_wp2_with fail
  refine (pick_any R (p3) 2 _ R3.out (by omega) (by omega) (by omega)).mono ?_
  rintro e w4 ⟨f, rfl, hf, hr, hs⟩
  have O4 := Lib.hid (owns_step O3.out hs hRG)
  have R4 := Lib.hid hr
  have S4 := Lib.hid (S3.out.trans hs)
  clear hr hs O3 R3 S3
  cases hf0 : ((f : Int) == 0)
  · skip
    go_wp2_with fail
    refine (pick_any R (p3 + 1) 20 _ R4.out (by omega) (by omega) (by omega)).mono ?_
    rintro e w5 ⟨s, rfl, hs20, hr, hs⟩
    have O5 := Lib.hid (owns_step O4.out hs hRG)
    have R5 := Lib.hid hr
    have S5 := Lib.hid (S4.out.trans hs)
    clear hr hs O4 R4 S4
    have g6 : G ≤ w5.heap.size := by have := S5.out.size; have := HGS.out; omega
    go_wp2_with fail
    refine (l91Lots_any R (p3 + 1 + 1) (N : Int) _ R5.out (by omega)).mono ?_
    rintro e w6 ⟨lots, al, cl, p8, rfl, hol, hl5, hr, hp8, hs⟩
    have O6 := Lib.hid (owns_step O5.out hs hRG)
    have L6 := Lib.hid (World.ownsRow.mono hol g6)
    have S6 := Lib.hid (S5.out.trans hs)
    clear hol hr hs g6 O5 R5 S5
    have g6' : G ≤ w6.heap.size := by have := S6.out.size; have := HGS.out; omega
    have IV := Lib.hid (IsInts.of_owned O6.out (by omega))
    have IL := Lib.hid (IsInts.of_owned L6.out (by omega))
    obtain ⟨rl, hrl⟩ : ∃ rl, remL zs (s : Int) lots = rl := ⟨_, rfl⟩
    have hr5 : rl.length ≤ 5 := by rw [← hrl]; exact remL_at5 (by rw [HZL.out]; exact hN5) _ _
    have HRL := Lib.hid hrl
    clear hrl
    go_wp2_with fail
    refine (specRem_as _ N cz zs (s : Int) _ _ cl lots rl _ _ IV.out IL.out rfl HRL.out).mono ?_
    rintro e w7 ⟨ag, cg, rfl, hog, hb7⟩
    have O7 := Lib.hid (owns_under O6.out hb7)
    have G7 := Lib.hid (World.ownsRow.mono hog g6')
    have B7 : Hid (Below w.heap.size w w7) := by
      unfold Hid; rw [HR.out] at B1 ⊢; exact (B1.out.trans (S6.out.below (Nat.le_refl _) (by rw [HGS.out]; omega))).trans (hb7.mono (by omega))
    clear hog hb7
    go_wp2
    refine bodyPost_ret (v := .tuple #[.slice az N cz, .slice ag rl.length cg]) (by simp [results, Try.results37, go_sem]) rfl ?_
    refine ⟨zs, az, cz, rl, ag, cg, by rw [HZL.out], ?_, by rw [HZL.out]; exact hN5, World.ownsRow.mono G7.out (by rw [HR.out]; omega), hr5, B7.out⟩
    rw [HZL.out]; exact World.ownsRow.mono O7.out (by rw [HR.out]; omega)
  · have g4 : G ≤ w4.heap.size := by have := S4.out.size; have := HGS.out; omega
    go_wp2_with fail
    refine (l92Given_any R (p3 + 1) N az cz zs 1 G _ R4.out (by omega) hN5 O4.out hRG).mono ?_
    rintro e w5 ⟨gs, ag, cg, ng, p5, rfl, hog, hgl, hg5, hr, hp5, hs⟩
    have O5 := Lib.hid (owns_step O4.out hs hRG)
    have G5 := Lib.hid (World.ownsRow.mono hog g4)
    have S5 := Lib.hid (S4.out.trans hs)
    have HGL := Lib.hid hgl
    clear hog hr hs O4 R4 S4 g4 hgl
    go_wp2
    refine bodyPost_ret (v := .tuple #[.slice az N cz, .slice ag ng cg]) (by simp [results, Try.results37, go_sem]) rfl ?_
    refine ⟨zs, az, cz, gs, ag, cg, by rw [HZL.out, HGL.out], ?_, by rw [HZL.out]; exact hN5, ?_, by rw [HGL.out]; exact hg5, ?_⟩
    · rw [HZL.out]; exact World.ownsRow.mono O5.out (by rw [HR.out]; omega)
    · rw [HGL.out]; exact World.ownsRow.mono G5.out (by rw [HR.out]; omega)
    · rw [HR.out] at B1 ⊢; exact B1.out.trans (S5.out.below (Nat.le_refl _) (by rw [HGS.out]; omega))

end Go.Proofs.Ytbcemgmfkddafaa
