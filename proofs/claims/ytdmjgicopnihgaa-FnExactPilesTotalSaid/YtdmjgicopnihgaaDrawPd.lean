/-
  What the drawn statements of piles get: DrawPilesValid, DrawPilesTotal, DrawPilesMerge, DrawPilesTurn, DrawPilesAdd.
-/
import Derived.Test.YtdmjgicopnihgaaDrawPl
import Derived.Deep.RegionLaw
import Derived.Deep.AppendLies
namespace Go.Proofs.Ytdmjgicopnihgaa
open Go.RowKit

/-- A list of piles of the call's own. -/
def HasP (w0 w : World) (ps : List Pl) (g cap : Nat) : Prop := w.ownsRow w0.heap.size 37 2 (.slice (some ⟨g, 0, none⟩) ps.length cap) ps.length (cellsP ps) ∧ Small ps ∧ Few ps ∧ ps.length ≤ 13
theorem HasP.below {w0 w w' : World} {ps : List Pl} {g cap : Nat} (h : HasP w0 w ps g cap) (hb : Below w.heap.size w w') : HasP w0 w' ps g cap := ⟨owns_below h.1 hb, h.2⟩
theorem HasP.piles {w0 w : World} {ps : List Pl} {g cap : Nat} (h : HasP w0 w ps g cap) : IsPiles w (some ⟨g, 0, none⟩) ps.length cap ps := IsPiles.of_owned h.1 (by have := h.2.2.2; omega)
theorem HasP.lt {w0 w : World} {ps : List Pl} {g cap : Nat} (h : HasP w0 w ps g cap) : g < w.heap.size := (h.1.lt g rfl).2

set_option maxHeartbeats 2000000 in
/-- **DrawPilesValid**. -/
theorem drawPV_any (a : Option Addr) (len cap : Nat) (bs : List Int) (w : World) (h : IsBytes w a len bs) (hcap : len ≤ cap) (hl : len ≤ 1048600) :
    Calls Try.prog 28 #[.slice a len cap] w fun e w' => ∃ ps g c, e = .returned (.slice (some ⟨g, 0, none⟩) ps.length c) ∧ HasP w w' ps g c ∧ Below w.heap.size w w' := by
  have H := Lib.hid h; clear h
  go_enter Try.func28, Try.ntmps28
  go_wp2_with fail
  refine (open_any a len cap bs _ H.out hcap hl).mono ?_
  rintro e w1 ⟨rfl, hr, hb⟩
  have hw1 := hr.1
  go_wp2_with fail
  refine (l91Piles_any w.heap.size 0 4 _ hr (by omega) (by omega) (by omega)).mono ?_
  rintro e w2 ⟨ps, g, c, p2, rfl, ho, hsm, hf, hl13, hr2, hp2, hs⟩
  have HO := Lib.hid (ho.mono hb.size)
  have HB := Lib.hid (hb.trans (hs.below (Nat.le_refl _) (Nat.le_of_lt hw1)))
  have HS := Lib.hid hsm
  have HF := Lib.hid hf
  clear ho hb hs hsm hf hr hr2
  go_wp2
  go_ret
  exact ⟨ps, g, c, rfl, ⟨HO.out, HS.out, HF.out, hl13⟩, HB.out⟩

set_option maxHeartbeats 2000000 in
/-- **DrawPilesTotal**. -/
theorem drawPT_any (a : Option Addr) (len cap : Nat) (bs : List Int) (w : World) (h : IsBytes w a len bs) (hcap : len ≤ cap) (hl : len ≤ 1048600) :
    Calls Try.prog 30 #[.slice a len cap] w fun e w' => ∃ ps g c, e = .returned (.slice (some ⟨g, 0, none⟩) ps.length c) ∧ HasP w w' ps g c ∧ Below w.heap.size w w' := by
  have H := Lib.hid h; clear h
  go_enter Try.func30, Try.ntmps30
  go_wp2_with fail
  refine (open_any a len cap bs _ H.out hcap hl).mono ?_
  rintro e w1 ⟨rfl, hr, hb⟩
  have hw1 := hr.1
  go_wp2_with fail
  refine (l91Piles_any w.heap.size 0 4 _ hr (by omega) (by omega) (by omega)).mono ?_
  rintro e w2 ⟨ps, g, c, p2, rfl, ho, hsm, hf, hl13, hr2, hp2, hs⟩
  have HO := Lib.hid (ho.mono hb.size)
  have HB := Lib.hid (hb.trans (hs.below (Nat.le_refl _) (Nat.le_of_lt hw1)))
  have HS := Lib.hid hsm
  have HF := Lib.hid hf
  clear ho hb hs hsm hf hr hr2
  go_wp2
  go_ret
  exact ⟨ps, g, c, rfl, ⟨HO.out, HS.out, HF.out, hl13⟩, HB.out⟩

set_option maxHeartbeats 2000000 in
/-- **DrawPilesMerge**. -/
theorem drawPM_any (a : Option Addr) (len cap : Nat) (bs : List Int) (w : World) (h : IsBytes w a len bs) (hcap : len ≤ cap) (hl : len ≤ 1048600) :
    Calls Try.prog 22 #[.slice a len cap] w fun e w' => ∃ xs g c ys g' c', e = .returned (.tuple #[.slice (some ⟨g, 0, none⟩) xs.length c, .slice (some ⟨g', 0, none⟩) ys.length c']) ∧ HasP w w' xs g c ∧ HasP w w' ys g' c' ∧ Below w.heap.size w w' := by
  have H := Lib.hid h; clear h
  go_enter Try.func22, Try.ntmps22
  go_wp2_with fail
  refine (open_any a len cap bs _ H.out hcap hl).mono ?_
  rintro e w1 ⟨rfl, hr, hb⟩
  have hw1 := hr.1
  go_wp2_with fail
  refine (l91Piles_any w.heap.size 0 3 _ hr (by omega) (by omega) (by omega)).mono ?_
  rintro e w2 ⟨xs, g, c, p2, rfl, ho, hsm, hf, hl13, hr2, hp2, hs⟩
  have HO := Lib.hid ho
  have HB := Lib.hid (hb.trans (hs.below (Nat.le_refl _) (Nat.le_of_lt hw1)))
  have HS := Lib.hid hsm
  have HF := Lib.hid hf
  have HR := Lib.hid hr2
  have hw12 := hs.size
  have hsz1 := hb.size
  clear ho hb hs hsm hf hr hr2
  go_wp2_with fail
  refine (l91Piles_any w.heap.size p2 3 _ HR.out (by omega) (by omega) (by omega)).mono ?_
  rintro e w3 ⟨ys, g', c', p3, rfl, ho', hsm', hf', hl13', hr3, hp3, hs'⟩
  have HO2 := Lib.hid ((owns_step HO.out hs' hw1).mono hsz1)
  have HO' := Lib.hid (ho'.mono (Nat.le_trans hsz1 hw12))
  have HB' := Lib.hid (HB.out.trans (hs'.below (Nat.le_refl _) (Nat.le_trans hsz1 hw12)))
  have HS' := Lib.hid hsm'
  have HF' := Lib.hid hf'
  clear ho' hs' hsm' hf' hr3
  go_wp2
  go_ret2
  exact ⟨xs, g, c, ys, g', c', rfl, ⟨HO2.out, HS.out, HF.out, hl13⟩, ⟨HO'.out, HS'.out, HF'.out, hl13'⟩, HB'.out⟩

set_option maxHeartbeats 2000000 in
/-- **DrawPilesTurn**. -/
theorem drawPU_any (a : Option Addr) (len cap : Nat) (bs : List Int) (w : World) (h : IsBytes w a len bs) (hcap : len ≤ cap) (hl : len ≤ 1048600) :
    Calls Try.prog 25 #[.slice a len cap] w fun e w' => ∃ (xs : List Pl) (g c : Nat) (x y : Int), e = .returned (.tuple #[.slice (some ⟨g, 0, none⟩) xs.length c, .int .i64 x, .int .i64 y]) ∧ HasP w w' xs g c ∧ Below w.heap.size w w' := by
  have H := Lib.hid h; clear h
  go_enter Try.func25, Try.ntmps25
  go_wp2_with fail
  refine (open_any a len cap bs _ H.out hcap hl).mono ?_
  rintro e w1 ⟨rfl, hr, hb⟩
  have hw1 := hr.1
  go_wp2_with fail
  refine (l91Piles_any w.heap.size 0 4 _ hr (by omega) (by omega) (by omega)).mono ?_
  rintro e w2 ⟨xs, g, c, p2, rfl, ho, hsm, hf, hl13, hr2, hp2, hs⟩
  have HO := Lib.hid ho
  have HB := Lib.hid (hb.trans (hs.below (Nat.le_refl _) (Nat.le_of_lt hw1)))
  have HS := Lib.hid hsm
  have HF := Lib.hid hf
  have HR := Lib.hid hr2
  have hsz1 := hb.size
  clear ho hb hs hsm hf hr hr2
  go_wp2_with fail
  refine (pick_any w.heap.size p2 16 _ HR.out (by omega) (by omega) (by omega)).mono ?_
  rintro e w3 ⟨d, rfl, hd, hr, hs⟩
  have R3 := Lib.hid hr
  have O3 := Lib.hid (owns_step HO.out hs hw1)
  have B3 := Lib.hid (HB.out.trans (hs.below (Nat.le_refl _) HB.out.size))
  clear hr hs HO HB HR
  cases hd0 : ((d : Int) == 0)
  · go_wp2_with fail
    refine (pick_any w.heap.size (p2 + 1) 5 _ R3.out (by omega) (by omega) (by omega)).mono ?_
    rintro e w4 ⟨x, rfl, hx, hr, hs⟩
    have R4 := Lib.hid hr
    have O4 := Lib.hid (owns_step O3.out hs hw1)
    have B4 := Lib.hid (B3.out.trans (hs.below (Nat.le_refl _) B3.out.size))
    clear hr hs
    go_wp2_with fail
    refine (pick_any w.heap.size (p2 + 1 + 1) 5 _ R4.out (by omega) (by omega) (by omega)).mono ?_
    rintro e w5 ⟨y, rfl, hy, hr, hs⟩
    have O5 := Lib.hid ((owns_step O4.out hs hw1).mono hsz1)
    have B5 := Lib.hid (B4.out.trans (hs.below (Nat.le_refl _) B4.out.size))
    clear hr hs
    go_wp2
    go_ret3
    exact ⟨xs, g, c, _, _, rfl, ⟨O5.out, HS.out, HF.out, hl13⟩, B5.out⟩
  · go_wp2_with fail
    refine (pick_any w.heap.size (p2 + 1) 7 _ R3.out (by omega) (by omega) (by omega)).mono ?_
    rintro e w4 ⟨x, rfl, hx, hr, hs⟩
    have R4 := Lib.hid hr
    have O4 := Lib.hid (owns_step O3.out hs hw1)
    have B4 := Lib.hid (B3.out.trans (hs.below (Nat.le_refl _) B3.out.size))
    clear hr hs
    have hwx : IntKind.i64.wrap ((x : Int) - 1) = (x : Int) - 1 := IntWalk.i64_in _ (by omega)
    go_wp2_with fail
    refine (pick_any w.heap.size (p2 + 1 + 1) 7 _ R4.out (by omega) (by omega) (by omega)).mono ?_
    rintro e w5 ⟨y, rfl, hy, hr, hs⟩
    have O5 := Lib.hid ((owns_step O4.out hs hw1).mono hsz1)
    have B5 := Lib.hid (B4.out.trans (hs.below (Nat.le_refl _) B4.out.size))
    clear hr hs
    have hwy : IntKind.i64.wrap ((y : Int) - 1) = (y : Int) - 1 := IntWalk.i64_in _ (by omega)
    go_wp2
    go_ret3
    exact ⟨xs, g, c, _, _, rfl, ⟨O5.out, HS.out, HF.out, hl13⟩, B5.out⟩

end Go.Proofs.Ytdmjgicopnihgaa
