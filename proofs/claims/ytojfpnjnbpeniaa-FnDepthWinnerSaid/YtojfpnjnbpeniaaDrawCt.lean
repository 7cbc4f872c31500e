/-
  What the drawn statements of contests get: some list of at most 13 piles, and at most 5 lots (l91Contest, DrawDepthWinner, DrawPlaceWinner).
-/
import Derived.Test.YtojfpnjnbpeniaaGrp18
import Derived.Test.YtojfpnjnbpeniaaGrp19
namespace Go.Proofs.Ytojfpnjnbpeniaa
open Go.RowKit

attribute [local go_sem] Oper.semAt_some

/-- What is drawn of a contest. -/
def DrewC (w : World) (e : Ending) (w' : World) : Prop := ∃ (ps : List Pl) (g cap : Nat) (lots : List Int) (a : Option Addr) (c : Nat), e = .returned (.tuple #[.slice (some ⟨g, 0, none⟩) ps.length cap, .slice a lots.length c]) ∧
  HasP w w' ps g cap ∧ w'.ownsRow w.heap.size 3 1 (.slice a lots.length c) lots.length (lots.map (Value.int .i64)) ∧ lots.length ≤ 5 ∧ Below w.heap.size w w'

set_option maxRecDepth 100000 in
set_option maxHeartbeats 4000000 in
/-- **l91Contest**. -/
theorem l91Contest_any (R p : Nat) (w : World) (h : Rd w R p) (hp : p + 3054 ≤ 1000000) :
    Calls Try.prog 59 #[.pointer (some ⟨R, 0, none⟩)] w fun e w' => ∃ (ps : List Pl) (g cap : Nat) (lots : List Int) (a : Option Addr) (c p' : Nat), e = .returned (.tuple #[.slice (some ⟨g, 0, none⟩) ps.length cap, .slice a lots.length c]) ∧
      w'.ownsRow w.heap.size 36 2 (.slice (some ⟨g, 0, none⟩) ps.length cap) ps.length (cellsP ps) ∧ Small ps ∧ Few ps ∧ ps.length ≤ 13 ∧ w'.ownsRow w.heap.size 3 1 (.slice a lots.length c) lots.length (lots.map (Value.int .i64)) ∧ lots.length ≤ 5 ∧ Rd w' R p' ∧ Step R w w' := by
  have hRw := h.1
  have H := Lib.hid h; clear h
  go_enter Try.func59, Try.ntmps59
  go_wp2_with fail
  refine (pick_any R p 5 _ H.out (by omega) (by omega) (by omega)).mono ?_
  rintro e w1 ⟨d, rfl, hd, hr, hs⟩
  have R1 := Lib.hid hr
  have S1 := Lib.hid hs
  clear hr hs H
  go_wp2_with fail
  refine (pick_any R (p + 1) 2 _ R1.out (by omega) (by omega) (by omega)).mono ?_
  rintro e w2 ⟨d2, rfl, hd2, hr, hs⟩
  have R2 := Lib.hid hr
  have S2 := Lib.hid (S1.out.trans hs)
  clear hr hs R1 S1
  obtain ⟨N, hN⟩ : ∃ N : Nat, (1 : Int) + (d : Int) = (N : Int) ∧ 1 ≤ N ∧ N ≤ 5 := ⟨1 + d, by omega, by omega, by omega⟩
  have e1 := hN.1
  have hN1 := hN.2.1
  have hN5 := hN.2.2
  clear hN
  cases h0 : ((d2 : Int) == 0)
  · go_wp2_with fail
    refine (l91Piles_any R (p + 1 + 1) (N : Int) _ R2.out (by omega) (by omega) (by omega)).mono ?_
    rintro e w3 ⟨ps, g, c, p3, rfl, ho, hsm, hf, hl13, hr3, hp3, hs3⟩
    have HO := Lib.hid (World.ownsRow.mono ho S2.out.size)
    have HS := Lib.hid (S2.out.trans hs3)
    have HM := Lib.hid hsm
    have HF := Lib.hid hf
    have HR := Lib.hid hr3
    clear ho hsm hf hr3 hs3 R2 S2
    go_wp2_with fail
    refine (pick_any R p3 20 _ HR.out (by omega) (by omega) (by omega)).mono ?_
    rintro e w4 ⟨d4, rfl, hd4, hr, hs⟩
    have HO4 := Lib.hid (owns_step HO.out hs hRw)
    have S4 := Lib.hid (HS.out.trans hs)
    have R4 := Lib.hid hr
    clear hr hs HO HS HR
    cases h4 : ((d4 : Int) == 0)
    · go_wp2_with fail
      refine (l91Lots_any R (p3 + 1) (N : Int) _ R4.out (by omega)).mono ?_
      rintro e w5 ⟨lots, a5, c5, p5, rfl, hol, hl5, hr5, hp5, hs5⟩
      have HO5 := Lib.hid (owns_step HO4.out hs5 hRw)
      have HL5 := Lib.hid (World.ownsRow.mono hol S4.out.size)
      have S5 := Lib.hid (S4.out.trans hs5)
      have R5 := Lib.hid hr5
      clear hol hs5 hr5 HO4 S4 R4
      go_wp2
      go_ret2
      exact ⟨ps, g, c, lots, a5, c5, p5, rfl, HO5.out, HM.out, HF.out, hl13, HL5.out, hl5, R5.out, S5.out⟩
    · go_wp2_with fail
      refine (pick_any R (p3 + 1) 5 _ R4.out (by omega) (by omega) (by omega)).mono ?_
      rintro e w6 ⟨d6, rfl, hd6, hr, hs⟩
      have HO6 := Lib.hid (owns_step HO4.out hs hRw)
      have S6 := Lib.hid (S4.out.trans hs)
      have R6 := Lib.hid hr
      clear hr hs HO4 S4 R4
      go_wp2_with fail
      refine (l91Lots_any R (p3 + 1 + 1) _ _ R6.out (by omega)).mono ?_
      rintro e w5 ⟨lots, a5, c5, p5, rfl, hol, hl5, hr5, hp5, hs5⟩
      have HO5 := Lib.hid (owns_step HO6.out hs5 hRw)
      have HL5 := Lib.hid (World.ownsRow.mono hol S6.out.size)
      have S5 := Lib.hid (S6.out.trans hs5)
      have R5 := Lib.hid hr5
      clear hol hs5 hr5 HO6 S6 R6
      go_wp2
      go_ret2
      exact ⟨ps, g, c, lots, a5, c5, p5, rfl, HO5.out, HM.out, HF.out, hl13, HL5.out, hl5, R5.out, S5.out⟩
  · go_wp2_with fail
    refine (l91Piles_any R (p + 1 + 1) 3 _ R2.out (by omega) (by omega) (by omega)).mono ?_
    rintro e w3 ⟨ps, g, c, p3, rfl, ho, hsm, hf, hl13, hr3, hp3, hs3⟩
    have HO := Lib.hid (World.ownsRow.mono ho S2.out.size)
    have HS := Lib.hid (S2.out.trans hs3)
    have HM := Lib.hid hsm
    have HF := Lib.hid hf
    have HR := Lib.hid hr3
    clear ho hsm hf hr3 hs3 R2 S2
    go_wp2_with fail
    refine (pick_any R p3 20 _ HR.out (by omega) (by omega) (by omega)).mono ?_
    rintro e w4 ⟨d4, rfl, hd4, hr, hs⟩
    have HO4 := Lib.hid (owns_step HO.out hs hRw)
    have S4 := Lib.hid (HS.out.trans hs)
    have R4 := Lib.hid hr
    clear hr hs HO HS HR
    cases h4 : ((d4 : Int) == 0)
    · go_wp2_with fail
      refine (l91Lots_any R (p3 + 1) 3 _ R4.out (by omega)).mono ?_
      rintro e w5 ⟨lots, a5, c5, p5, rfl, hol, hl5, hr5, hp5, hs5⟩
      have HO5 := Lib.hid (owns_step HO4.out hs5 hRw)
      have HL5 := Lib.hid (World.ownsRow.mono hol S4.out.size)
      have S5 := Lib.hid (S4.out.trans hs5)
      have R5 := Lib.hid hr5
      clear hol hs5 hr5 HO4 S4 R4
      go_wp2
      go_ret2
      exact ⟨ps, g, c, lots, a5, c5, p5, rfl, HO5.out, HM.out, HF.out, hl13, HL5.out, hl5, R5.out, S5.out⟩
    · go_wp2_with fail
      refine (pick_any R (p3 + 1) 5 _ R4.out (by omega) (by omega) (by omega)).mono ?_
      rintro e w6 ⟨d6, rfl, hd6, hr, hs⟩
      have HO6 := Lib.hid (owns_step HO4.out hs hRw)
      have S6 := Lib.hid (S4.out.trans hs)
      have R6 := Lib.hid hr
      clear hr hs HO4 S4 R4
      go_wp2_with fail
      refine (l91Lots_any R (p3 + 1 + 1) _ _ R6.out (by omega)).mono ?_
      rintro e w5 ⟨lots, a5, c5, p5, rfl, hol, hl5, hr5, hp5, hs5⟩
      have HO5 := Lib.hid (owns_step HO6.out hs5 hRw)
      have HL5 := Lib.hid (World.ownsRow.mono hol S6.out.size)
      have S5 := Lib.hid (S6.out.trans hs5)
      have R5 := Lib.hid hr5
      clear hol hs5 hr5 HO6 S6 R6
      go_wp2
      go_ret2
      exact ⟨ps, g, c, lots, a5, c5, p5, rfl, HO5.out, HM.out, HF.out, hl13, HL5.out, hl5, R5.out, S5.out⟩

set_option maxHeartbeats 2000000 in
/-- **DrawDepthWinner**. -/
theorem drawDepthW_any (a : Option Addr) (len cap : Nat) (bs : List Int) (w : World) (h : IsBytes w a len bs) (hcap : len ≤ cap) (hl : len ≤ 1048600) :
    Calls Try.prog 22 #[.slice a len cap] w (DrewC w) := by
  have H := Lib.hid h; clear h
  go_enter Try.func22, Try.ntmps22
  go_wp2_with fail
  refine (open_any a len cap bs _ H.out hcap hl).mono ?_
  rintro e w1 ⟨rfl, hr, hb⟩
  have hw1 := hr.1
  go_wp2_with fail
  refine (l91Contest_any w.heap.size 0 _ hr (by omega)).mono ?_
  rintro e w2 ⟨ps, g, c, lots, a2, c2, p2, rfl, ho, hsm, hf, hl13, hol, hl5, hr2, hs⟩
  have HO := Lib.hid (ho.mono hb.size)
  have HL := Lib.hid (hol.mono hb.size)
  have HB := Lib.hid (hb.trans (hs.below (Nat.le_refl _) (Nat.le_of_lt hw1)))
  have HS := Lib.hid hsm
  have HF := Lib.hid hf
  clear ho hol hb hs hsm hf hr hr2
  go_wp2
  go_ret2
  exact ⟨ps, g, c, lots, a2, c2, rfl, ⟨HO.out, HS.out, HF.out, hl13⟩, HL.out, hl5, HB.out⟩
set_option maxHeartbeats 2000000 in
/-- **DrawPlaceWinner**. -/
theorem drawPlaceW_any (a : Option Addr) (len cap : Nat) (bs : List Int) (w : World) (h : IsBytes w a len bs) (hcap : len ≤ cap) (hl : len ≤ 1048600) :
    Calls Try.prog 31 #[.slice a len cap] w (DrewC w) := by
  have H := Lib.hid h; clear h
  go_enter Try.func31, Try.ntmps31
  go_wp2_with fail
  refine (open_any a len cap bs _ H.out hcap hl).mono ?_
  rintro e w1 ⟨rfl, hr, hb⟩
  have hw1 := hr.1
  go_wp2_with fail
  refine (l91Contest_any w.heap.size 0 _ hr (by omega)).mono ?_
  rintro e w2 ⟨ps, g, c, lots, a2, c2, p2, rfl, ho, hsm, hf, hl13, hol, hl5, hr2, hs⟩
  have HO := Lib.hid (ho.mono hb.size)
  have HL := Lib.hid (hol.mono hb.size)
  have HB := Lib.hid (hb.trans (hs.below (Nat.le_refl _) (Nat.le_of_lt hw1)))
  have HS := Lib.hid hsm
  have HF := Lib.hid hf
  clear ho hol hb hs hsm hf hr hr2
  go_wp2
  go_ret2
  exact ⟨ps, g, c, lots, a2, c2, rfl, ⟨HO.out, HS.out, HF.out, hl13⟩, HL.out, hl5, HB.out⟩

end Go.Proofs.Ytojfpnjnbpeniaa
