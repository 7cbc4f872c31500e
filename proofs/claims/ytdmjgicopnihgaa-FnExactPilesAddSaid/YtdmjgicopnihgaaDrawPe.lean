/-
  What the drawn statements of piles get: DrawPilesAdd.
-/
import Derived.Test.YtdmjgicopnihgaaDrawPd
namespace Go.Proofs.Ytdmjgicopnihgaa
open Go.RowKit

/-- One of the numbers 0, 99, 100, 95. -/
def p4 (d : Nat) : Int := if d = 0 then 0 else if d = 1 then 99 else if d = 2 then 100 else 95
theorem p4_range (d : Nat) : 0 ≤ p4 d ∧ p4 d ≤ 100 := by unfold p4; split <;> (try split) <;> (try split) <;> omega
theorem p4_cell (w : World) (T : TypeId) (d : Nat) (hd : d < 4) : (w.alloc (.cells #[.int .i64 0, .int .i64 99, .int .i64 100, .int .i64 95] T)).cell? ⟨w.heap.size, d, none⟩ = some (.int .i64 (p4 d)) := by
  rw [World.cell?_alloc_new]
  have : d = 0 ∨ d = 1 ∨ d = 2 ∨ d = 3 := by omega
  rcases this with rfl | rfl | rfl | rfl <;> rfl

set_option maxRecDepth 100000 in
set_option maxHeartbeats 4000000 in
/-- **DrawPilesAdd**. -/
theorem drawPA_any (a : Option Addr) (len cap : Nat) (bs : List Int) (w : World) (h : IsBytes w a len bs) (hcap : len ≤ cap) (hl : len ≤ 1048600) :
    Calls Try.prog 16 #[.slice a len cap] w fun e w' => ∃ (xs : List Pl) (g c : Nat) (t : ByteArray) (m : Int), e = .returned (.tuple #[.slice (some ⟨g, 0, none⟩) xs.length c, .string t, .int .i64 m]) ∧ HasP w w' xs g c ∧ t.size ≤ 1048600 ∧ (0 ≤ m ∧ m ≤ 100) ∧ Below w.heap.size w w' := by
  have H := Lib.hid h; clear h
  go_enter Try.func16, Try.ntmps16
  go_wp2_with fail
  refine (open_any a len cap bs _ H.out hcap hl).mono ?_
  rintro e w1 ⟨rfl, hr, hb⟩
  have hw1 := hr.1
  go_wp2_with fail
  refine (l91Piles_any w.heap.size 0 4 _ hr (by omega) (by omega) (by omega)).mono ?_
  rintro e w2 ⟨xs, g, c, p2, rfl, ho, hsm, hf, hl13, hr2, hp2, hs⟩
  have HO := Lib.hid ho
  have HB := Lib.hid (hb.trans (hs.below (Nat.le_refl _) (Nat.le_of_lt hw1)))
  have HS := Lib.hid hsm
  have HF := Lib.hid hf
  have HR := Lib.hid hr2
  have hsz1 := hb.size
  clear ho hb hs hsm hf hr hr2
  go_wp2_with fail
  refine (l91Ballot_any w.heap.size p2 4 _ HR.out (by omega) (by omega) (by omega)).mono ?_
  rintro e w3 ⟨zs, az, cz, p3, rfl, hoz, hz10, hr, hp3, hs⟩
  have R3 := Lib.hid hr
  have O3 := Lib.hid (owns_step HO.out hs hw1)
  have B3 := Lib.hid (HB.out.trans (hs.below (Nat.le_refl _) HB.out.size))
  have I3 := Lib.hid (IsInts.of_owned hoz (by omega))
  obtain ⟨t0, ht⟩ : ∃ t0, txtB zs = t0 := ⟨_, rfl⟩
  have hts : t0.size ≤ 1048600 := by rw [← ht]; have := txtB_short' zs; omega
  have HT := Lib.hid ht
  clear hr hs hoz ht HO HB HR
  go_wp2_with fail
  refine (specText_as' az zs.length cz zs t0 _ I3.out HT.out).mono ?_
  rintro e w4 ⟨rfl, hd⟩
  have R4 := Lib.hid (R3.out.below (hd.below _))
  have O4 := Lib.hid (owns_below O3.out (hd.below _))
  have B4 := Lib.hid (B3.out.trans (hd.below _))
  clear hd R3 O3 B3 I3 HT
  rcases Nat.eq_zero_or_pos xs.length with hz | hz
  · have hgt : decide ((0 : Int) < (xs.length : Int)) = false := decide_eq_false (by omega)
    have hgt' : decide (0 < xs.length) = false := decide_eq_false (by omega)
    clear hz
    go_wp2_with fail
    refine (pick_any w.heap.size p3 12 _ R4.out (by omega) (by omega) (by omega)).mono ?_
    rintro e w5 ⟨d, rfl, hd, hr, hs⟩
    have R5 := Lib.hid hr
    have O5 := Lib.hid (owns_step O4.out hs hw1)
    have B5 := Lib.hid (B4.out.trans (hs.below (Nat.le_refl _) B4.out.size))
    obtain ⟨t, hteq⟩ : ∃ t, t0 = t := ⟨_, rfl⟩
    have hts' : t.size ≤ 1048600 := hteq ▸ hts
    obtain ⟨p5, hp5⟩ : ∃ p5, p3 + 1 = p5 := ⟨_, rfl⟩
    rw [hp5] at R5
    have hp5' : p5 ≤ 3100 := by omega
    rw [hteq]
    clear hr hs R4 O4 B4 hteq hts hp5 hp3 hp2
    cases hd12 : ((d : Int) == 0)
    · go_wp2_with fail
      refine (pick_any w.heap.size p5 9 _ R5.out (by omega) (by omega) (by omega)).mono ?_
      rintro e w8 ⟨r9, rfl, hr9, hr, hs⟩
      have O8 := Lib.hid ((owns_step O5.out hs hw1).mono hsz1)
      have B8 := Lib.hid (B5.out.trans (hs.below (Nat.le_refl _) B5.out.size))
      clear hr hs
      have hw9 : IntKind.i64.wrap (1 + (r9 : Int)) = 1 + (r9 : Int) := IntWalk.i64_in _ (by omega)
      go_wp2
      go_ret3
      exact ⟨xs, g, c, t, _, rfl, ⟨O8.out, HS.out, HF.out, hl13⟩, hts', by omega, B8.out⟩
    · have RA : Rd (w5.alloc (.cells #[.int .i64 0, .int .i64 99, .int .i64 100, .int .i64 95] 3)).drew w.heap.size p5 := R5.out.below ((Below.refl _ w5).alloc (Nat.le_refl _) _).drew
      have RB : Rd w5.drew w.heap.size p5 := R5.out.below (Below.refl _ w5).drew
      have OA := (O5.out.alloc (.cells #[.int .i64 0, .int .i64 99, .int .i64 100, .int .i64 95] 3)).drew
      have OB := O5.out.drew
      have BA : Below w.heap.size w (w5.alloc (.cells #[.int .i64 0, .int .i64 99, .int .i64 100, .int .i64 95] 3)).drew := (B5.out.alloc B5.out.size _).drew
      have BB : Below w.heap.size w w5.drew := B5.out.drew
      have LA : w5.heap.size < (w5.alloc (.cells #[.int .i64 0, .int .i64 99, .int .i64 100, .int .i64 95] 3)).drew.heap.size := by rw [drew_size]; simp
      have neR : some w5.heap.size ≠ some w.heap.size := by have := R5.out.1; intro e; injection e with e; omega
      have CA : ∀ d, d < 4 → (w5.alloc (.cells #[.int .i64 0, .int .i64 99, .int .i64 100, .int .i64 95] 3)).drew.cell? ⟨w5.heap.size, d, none⟩ = some (.int .i64 (p4 d)) := fun d hd => p4_cell w5 _ d hd
      have OA := Lib.hid OA
      have OB := Lib.hid OB
      have CA := Lib.hid CA
      have hp5n : p5 + 1 ≤ 1000000 := by omega
      go_wp2_with fail
      go_region_law (first
        | (go_simp; go_at_call 41; refine (pick_any w.heap.size p5 4 _ ?_ hp5n (by omega) (by omega)).mono ?_; exact RA; rintro e w8 ⟨d4, rfl, hd4, hr, hs⟩; have hd5 : d4 < 4 := (by omega); have hq : w8.cell? ⟨w5.heap.size, d4, none⟩ = some (.int .i64 (p4 d4)) := (World.cell?_of_block (a := ⟨w5.heap.size, d4, none⟩) (hs.block w5.heap.size LA neR)).trans (CA.out d4 hd5); have O8 := Lib.hid ((owns_step OA.out hs hw1).mono hsz1); have B8 := Lib.hid (BA.trans (hs.below (Nat.le_refl _) BA.size)); have hM := p4_range d4; clear hr hs)
        | (go_simp; go_at_call 41; refine (pick_any w.heap.size p5 4 _ ?_ hp5n (by omega) (by omega)).mono ?_; exact RB; rintro e w8 ⟨d4, rfl, hd4, hr, hs⟩; have hd5 : d4 < 4 := (by omega); have hq : (w8.alloc (.cells #[.int .i64 0, .int .i64 99, .int .i64 100, .int .i64 95] 3)).cell? ⟨w8.heap.size, d4, none⟩ = some (.int .i64 (p4 d4)) := p4_cell w8 _ d4 hd5; have O8 := Lib.hid (((owns_step OB.out hs hw1).mono hsz1).alloc (.cells #[.int .i64 0, .int .i64 99, .int .i64 100, .int .i64 95] 3)); have B8 := Lib.hid ((BB.trans (hs.below (Nat.le_refl _) BB.size)).alloc (BB.trans (hs.below (Nat.le_refl _) BB.size)).size (.cells #[.int .i64 0, .int .i64 99, .int .i64 100, .int .i64 95] 3)); have hM := p4_range d4; clear hr hs))
      all_goals
        go_wp2
        go_ret3
        exact ⟨xs, g, c, t, p4 d4, rfl, ⟨O8.out, HS.out, HF.out, hl13⟩, hts', hM, B8.out⟩
  · have hgt : decide ((0 : Int) < (xs.length : Int)) = true := decide_eq_true (by omega)
    have hgt' : decide (0 < xs.length) = true := decide_eq_true (by omega)
    go_wp2_with fail
    refine (pick_any w.heap.size p3 3 _ R4.out (by omega) (by omega) (by omega)).mono ?_
    rintro e w5 ⟨d3, rfl, hd3, hr, hs⟩
    have R5 := Lib.hid hr
    have O5 := Lib.hid (owns_step O4.out hs hw1)
    have B5 := Lib.hid (B4.out.trans (hs.below (Nat.le_refl _) B4.out.size))
    clear hr hs R4 O4 B4
    cases hd0 : ((d3 : Int) == 0)
    · go_wp2_with fail
      refine (pick_any w.heap.size (p3 + 1) 12 _ R5.out (by omega) (by omega) (by omega)).mono ?_
      rintro e w6 ⟨d, rfl, hd, hr, hs⟩
      have R6 := Lib.hid hr
      have O6 := Lib.hid (owns_step O5.out hs hw1)
      have B6 := Lib.hid (B5.out.trans (hs.below (Nat.le_refl _) B5.out.size))
      clear hr hs R5 O5 B5
      obtain ⟨t, hteq⟩ : ∃ t, t0 = t := ⟨_, rfl⟩
      have hts' : t.size ≤ 1048600 := hteq ▸ hts
      obtain ⟨p5, hp5⟩ : ∃ p5, p3 + 1 + 1 = p5 := ⟨_, rfl⟩
      rw [hp5] at R6
      have hp5' : p5 ≤ 3100 := by omega
      rw [hteq]
      clear hteq hts hp5 hp3 hp2 hd0
      cases hd12 : ((d : Int) == 0)
      · go_wp2_with fail
        refine (pick_any w.heap.size p5 9 _ R6.out (by omega) (by omega) (by omega)).mono ?_
        rintro e w8 ⟨r9, rfl, hr9, hr, hs⟩
        have O8 := Lib.hid ((owns_step O6.out hs hw1).mono hsz1)
        have B8 := Lib.hid (B6.out.trans (hs.below (Nat.le_refl _) B6.out.size))
        clear hr hs
        have hw9 : IntKind.i64.wrap (1 + (r9 : Int)) = 1 + (r9 : Int) := IntWalk.i64_in _ (by omega)
        go_wp2
        go_ret3
        exact ⟨xs, g, c, t, _, rfl, ⟨O8.out, HS.out, HF.out, hl13⟩, hts', by omega, B8.out⟩
      · have RA : Rd (w6.alloc (.cells #[.int .i64 0, .int .i64 99, .int .i64 100, .int .i64 95] 3)).drew w.heap.size p5 := R6.out.below ((Below.refl _ w6).alloc (Nat.le_refl _) _).drew
        have RB : Rd w6.drew w.heap.size p5 := R6.out.below (Below.refl _ w6).drew
        have OA := (O6.out.alloc (.cells #[.int .i64 0, .int .i64 99, .int .i64 100, .int .i64 95] 3)).drew
        have OB := O6.out.drew
        have BA : Below w.heap.size w (w6.alloc (.cells #[.int .i64 0, .int .i64 99, .int .i64 100, .int .i64 95] 3)).drew := (B6.out.alloc B6.out.size _).drew
        have BB : Below w.heap.size w w6.drew := B6.out.drew
        have LA : w6.heap.size < (w6.alloc (.cells #[.int .i64 0, .int .i64 99, .int .i64 100, .int .i64 95] 3)).drew.heap.size := by rw [drew_size]; simp
        have neR : some w6.heap.size ≠ some w.heap.size := by have := R6.out.1; intro e; injection e with e; omega
        have CA : ∀ d, d < 4 → (w6.alloc (.cells #[.int .i64 0, .int .i64 99, .int .i64 100, .int .i64 95] 3)).drew.cell? ⟨w6.heap.size, d, none⟩ = some (.int .i64 (p4 d)) := fun d hd => p4_cell w6 _ d hd
        have OA := Lib.hid OA
        have OB := Lib.hid OB
        have CA := Lib.hid CA
        have hp5n : p5 + 1 ≤ 1000000 := by omega
        go_wp2_with fail
        go_region_law (first
          | (go_simp; go_at_call 41; refine (pick_any w.heap.size p5 4 _ ?_ hp5n (by omega) (by omega)).mono ?_; exact RA; rintro e w8 ⟨d4, rfl, hd4, hr, hs⟩; have hd5 : d4 < 4 := (by omega); have hq : w8.cell? ⟨w6.heap.size, d4, none⟩ = some (.int .i64 (p4 d4)) := (World.cell?_of_block (a := ⟨w6.heap.size, d4, none⟩) (hs.block w6.heap.size LA neR)).trans (CA.out d4 hd5); have O8 := Lib.hid ((owns_step OA.out hs hw1).mono hsz1); have B8 := Lib.hid (BA.trans (hs.below (Nat.le_refl _) BA.size)); have hM := p4_range d4; clear hr hs)
          | (go_simp; go_at_call 41; refine (pick_any w.heap.size p5 4 _ ?_ hp5n (by omega) (by omega)).mono ?_; exact RB; rintro e w8 ⟨d4, rfl, hd4, hr, hs⟩; have hd5 : d4 < 4 := (by omega); have hq : (w8.alloc (.cells #[.int .i64 0, .int .i64 99, .int .i64 100, .int .i64 95] 3)).cell? ⟨w8.heap.size, d4, none⟩ = some (.int .i64 (p4 d4)) := p4_cell w8 _ d4 hd5; have O8 := Lib.hid (((owns_step OB.out hs hw1).mono hsz1).alloc (.cells #[.int .i64 0, .int .i64 99, .int .i64 100, .int .i64 95] 3)); have B8 := Lib.hid ((BB.trans (hs.below (Nat.le_refl _) BB.size)).alloc (BB.trans (hs.below (Nat.le_refl _) BB.size)).size (.cells #[.int .i64 0, .int .i64 99, .int .i64 100, .int .i64 95] 3)); have hM := p4_range d4; clear hr hs))
        all_goals
          go_wp2
          go_ret3
          exact ⟨xs, g, c, t, p4 d4, rfl, ⟨O8.out, HS.out, HF.out, hl13⟩, hts', hM, B8.out⟩
    · go_wp2_with fail
      refine (pick_any w.heap.size (p3 + 1) (xs.length : Int) _ R5.out (by omega) (by omega) (by omega)).mono ?_
      rintro e w6 ⟨j, rfl, hj, hr, hs⟩
      have R6 := Lib.hid hr
      have O6 := Lib.hid (owns_step O5.out hs hw1)
      have B6 := Lib.hid (B5.out.trans (hs.below (Nat.le_refl _) B5.out.size))
      have hjl : j < xs.length := by omega
      obtain ⟨t, hteq⟩ : ∃ t, tAt xs j = t := ⟨_, rfl⟩
      have hts' : t.size ≤ 1048600 := by rw [← hteq]; exact HS.out j
      have q0 : w6.cell? ⟨g, j * 2, none⟩ = some (.string t) := by rw [O6.out.cellAt (j * 2) (by omega), cellsP_text xs j hjl, hteq]
      have hjc : (j : Int) < (c : Int) := by have := (IsPiles.of_owned O6.out (by omega)).2.1; omega
      clear hr hs R5 O5 B5 hteq hts hd0
      go_wp2_with fail
      refine (pick_any w.heap.size (p3 + 1 + 1) 12 _ R6.out (by omega) (by omega) (by omega)).mono ?_
      rintro e w7 ⟨d, rfl, hd, hr, hs⟩
      have R7 := Lib.hid hr
      have O7 := Lib.hid (owns_step O6.out hs hw1)
      have B7 := Lib.hid (B6.out.trans (hs.below (Nat.le_refl _) B6.out.size))
      clear hr hs R6 O6 B6 q0
      obtain ⟨p5, hp5⟩ : ∃ p5, p3 + 1 + 1 + 1 = p5 := ⟨_, rfl⟩
      rw [hp5] at R7
      have hp5' : p5 ≤ 3100 := by omega
      clear hp5 hp3 hp2
      cases hd12 : ((d : Int) == 0)
      · go_wp2_with fail
        refine (pick_any w.heap.size p5 9 _ R7.out (by omega) (by omega) (by omega)).mono ?_
        rintro e w8 ⟨r9, rfl, hr9, hr, hs⟩
        have O8 := Lib.hid ((owns_step O7.out hs hw1).mono hsz1)
        have B8 := Lib.hid (B7.out.trans (hs.below (Nat.le_refl _) B7.out.size))
        clear hr hs
        have hw9 : IntKind.i64.wrap (1 + (r9 : Int)) = 1 + (r9 : Int) := IntWalk.i64_in _ (by omega)
        go_wp2
        go_ret3
        exact ⟨xs, g, c, t, _, rfl, ⟨O8.out, HS.out, HF.out, hl13⟩, hts', by omega, B8.out⟩
      · have RA : Rd (w7.alloc (.cells #[.int .i64 0, .int .i64 99, .int .i64 100, .int .i64 95] 3)).drew w.heap.size p5 := R7.out.below ((Below.refl _ w7).alloc (Nat.le_refl _) _).drew
        have RB : Rd w7.drew w.heap.size p5 := R7.out.below (Below.refl _ w7).drew
        have OA := (O7.out.alloc (.cells #[.int .i64 0, .int .i64 99, .int .i64 100, .int .i64 95] 3)).drew
        have OB := O7.out.drew
        have BA : Below w.heap.size w (w7.alloc (.cells #[.int .i64 0, .int .i64 99, .int .i64 100, .int .i64 95] 3)).drew := (B7.out.alloc B7.out.size _).drew
        have BB : Below w.heap.size w w7.drew := B7.out.drew
        have LA : w7.heap.size < (w7.alloc (.cells #[.int .i64 0, .int .i64 99, .int .i64 100, .int .i64 95] 3)).drew.heap.size := by rw [drew_size]; simp
        have neR : some w7.heap.size ≠ some w.heap.size := by have := R7.out.1; intro e; injection e with e; omega
        have CA : ∀ d, d < 4 → (w7.alloc (.cells #[.int .i64 0, .int .i64 99, .int .i64 100, .int .i64 95] 3)).drew.cell? ⟨w7.heap.size, d, none⟩ = some (.int .i64 (p4 d)) := fun d hd => p4_cell w7 _ d hd
        have OA := Lib.hid OA
        have OB := Lib.hid OB
        have CA := Lib.hid CA
        have hp5n : p5 + 1 ≤ 1000000 := by omega
        go_wp2_with fail
        go_region_law (first
          | (go_simp; go_at_call 41; refine (pick_any w.heap.size p5 4 _ ?_ hp5n (by omega) (by omega)).mono ?_; exact RA; rintro e w8 ⟨d4, rfl, hd4, hr, hs⟩; have hd5 : d4 < 4 := (by omega); have hq : w8.cell? ⟨w7.heap.size, d4, none⟩ = some (.int .i64 (p4 d4)) := (World.cell?_of_block (a := ⟨w7.heap.size, d4, none⟩) (hs.block w7.heap.size LA neR)).trans (CA.out d4 hd5); have O8 := Lib.hid ((owns_step OA.out hs hw1).mono hsz1); have B8 := Lib.hid (BA.trans (hs.below (Nat.le_refl _) BA.size)); have hM := p4_range d4; clear hr hs)
          | (go_simp; go_at_call 41; refine (pick_any w.heap.size p5 4 _ ?_ hp5n (by omega) (by omega)).mono ?_; exact RB; rintro e w8 ⟨d4, rfl, hd4, hr, hs⟩; have hd5 : d4 < 4 := (by omega); have hq : (w8.alloc (.cells #[.int .i64 0, .int .i64 99, .int .i64 100, .int .i64 95] 3)).cell? ⟨w8.heap.size, d4, none⟩ = some (.int .i64 (p4 d4)) := p4_cell w8 _ d4 hd5; have O8 := Lib.hid (((owns_step OB.out hs hw1).mono hsz1).alloc (.cells #[.int .i64 0, .int .i64 99, .int .i64 100, .int .i64 95] 3)); have B8 := Lib.hid ((BB.trans (hs.below (Nat.le_refl _) BB.size)).alloc (BB.trans (hs.below (Nat.le_refl _) BB.size)).size (.cells #[.int .i64 0, .int .i64 99, .int .i64 100, .int .i64 95] 3)); have hM := p4_range d4; clear hr hs))
        all_goals
          go_wp2
          go_ret3
          exact ⟨xs, g, c, t, p4 d4, rfl, ⟨O8.out, HS.out, HF.out, hl13⟩, hts', hM, B8.out⟩

end Go.Proofs.Ytdmjgicopnihgaa
