/-
  The draw of a ballot and two numbers (DrawBallotPrefers): what it returns, and that nothing is written that was there.
-/
import Derived.Test.YtppnngccjlnejaaDrawC
namespace Go.Proofs.Ytppnngccjlnejaa
open Go.RowKit

/-- What the draw of a ballot and two numbers says to its caller. -/
def DrawnTwo (w : World) (e : Ending) (w' : World) : Prop := ∃ (zs : List Int) (a : Option Addr) (cap : Nat) (x y : Int), e = .returned (.tuple #[.slice a zs.length cap, .int .i64 x, .int .i64 y]) ∧ w'.ownsRow w.heap.size 3 1 (.slice a zs.length cap) zs.length (zs.map (Value.int .i64)) ∧ zs.length ≤ 10 ∧ Below w.heap.size w w'

set_option maxHeartbeats 2000000 in
/-- **DrawBallotPrefers**. -/
theorem drawPrefers_any (a : Option Addr) (len cap : Nat) (bs : List Int) (w : World) (h : IsBytes w a len bs) (hcap : len ≤ cap) (hl : len ≤ 1048600) :
    Calls Try.prog 28 #[.slice a len cap] w (DrawnTwo w) := by
  have H := Lib.hid h; clear h
  go_enter Try.func28, Try.ntmps28
  go_wp2_with fail
  refine (open_any a len cap bs _ H.out hcap hl).mono ?_
  rintro e w1 ⟨rfl, hr, hb⟩
  have R1 := Lib.hid hr
  have B1 := Lib.hid hb
  have hw1 : w.heap.size < w1.heap.size := hr.1
  clear hr hb
  go_wp2_with fail
  refine (l91Ballot_any w.heap.size 0 5 _ R1.out (by omega) (by omega) (by omega)).mono ?_
  rintro e w2 ⟨zs, a2, c2, p2, rfl, ho, hz, hr, hp2, hs⟩
  have R2 := Lib.hid hr
  have O2 := Lib.hid ho
  have B2 := Lib.hid (B1.out.trans (hs.below (Nat.le_refl _) (Nat.le_of_lt hw1)))
  clear ho hs hr R1 B1
  go_wp2_with fail
  refine (pick_any w.heap.size p2 6 _ R2.out (by omega) (by omega) (by omega)).mono ?_
  rintro e w3 ⟨x, rfl, hx, hr, hs⟩
  have R3 := Lib.hid hr
  have O3 := Lib.hid (owns_step O2.out hs hw1)
  have B3 := Lib.hid (B2.out.trans (hs.below (Nat.le_refl _) B2.out.size))
  clear hs hr R2 B2 O2
  rcases Nat.eq_zero_or_pos zs.length with hz0 | hz0
  · have hz1 : (zs.length : Int) ≤ 0 := by omega
    clear hz0
    go_wp2_with fail
    refine (pick_any w.heap.size (p2 + 1) 6 _ R3.out (by omega) (by omega) (by omega)).mono ?_
    rintro e w4 ⟨y, rfl, hy, hr, hs⟩
    have O4 := Lib.hid (owns_step O3.out hs hw1)
    have B4 := Lib.hid (B3.out.trans (hs.below (Nat.le_refl _) B3.out.size))
    clear hs hr
    go_wp2
    go_ret3
    exact ⟨zs, a2, c2, _, _, rfl, O4.out.mono (Nat.le_of_lt hw1), hz, B4.out⟩
  · have hz1 : (0 : Int) < (zs.length : Int) := by omega
    go_wp2_with fail
    refine (pick_any w.heap.size (p2 + 1) 5 _ R3.out (by omega) (by omega) (by omega)).mono ?_
    rintro e w4 ⟨d, rfl, hd, hr, hs⟩
    have R4 := Lib.hid hr
    have O4 := Lib.hid (owns_step O3.out hs hw1)
    have B4 := Lib.hid (B3.out.trans (hs.below (Nat.le_refl _) B3.out.size))
    clear hs hr R3 B3 O3
    by_cases hd0 : d = 0
    · subst hd0
      go_wp2_with fail
      refine (pick_any w.heap.size (p2 + 1 + 1) 6 _ R4.out (by omega) (by omega) (by omega)).mono ?_
      rintro e w5 ⟨y, rfl, hy, hr, hs⟩
      have O5 := Lib.hid (owns_step O4.out hs hw1)
      have B5 := Lib.hid (B4.out.trans (hs.below (Nat.le_refl _) B4.out.size))
      clear hs hr
      go_wp2
      go_ret3
      exact ⟨zs, a2, c2, _, _, rfl, O5.out.mono (Nat.le_of_lt hw1), hz, B5.out⟩
    · have hd1 : (0 : Int) < (d : Int) := by omega
      clear hd0
      go_wp2_with fail
      refine (pick_any w.heap.size (p2 + 1 + 1) (zs.length : Int) _ R4.out (by omega) (by omega) (by omega)).mono ?_
      rintro e w5 ⟨i, rfl, hi, hr, hs⟩
      have R5 := Lib.hid hr
      have O5 := Lib.hid (owns_step O4.out hs hw1)
      have B5 := Lib.hid (B4.out.trans (hs.below (Nat.le_refl _) B4.out.size))
      clear hs hr R4 B4 O4
      go_wp2_with fail
      refine (pick_any w.heap.size (p2 + 1 + 1 + 1) 2 _ R5.out (by omega) (by omega) (by omega)).mono ?_
      rintro e w6 ⟨j, rfl, hj, hr, hs⟩
      have R6 := Lib.hid hr
      have O6 := Lib.hid (owns_step O5.out hs hw1)
      have B6 := Lib.hid (B5.out.trans (hs.below (Nat.le_refl _) B5.out.size))
      clear hs hr R5 B5 O5
      obtain ⟨g, rfl⟩ : ∃ g, a2 = some ⟨g, 0, none⟩ := by
        rcases O6.out.2 with ⟨_, e0⟩ | ⟨g, c, _, e, hb, _⟩
        · omega
        · injection e with e1 _ _; exact ⟨g, e1⟩
      have hcell : ∀ q, q < zs.length → w6.cell? ⟨g, q, none⟩ = some (.int .i64 (zs[q]?.getD 0)) := fun q hq => by
        rw [O6.out.cellAt q (by omega)]; simp [hq]
      have hj2 : j = 0 ∨ j = 1 := by omega
      rcases hj2 with rfl | rfl
      · have h0 := hcell 0 hz0
        clear hcell
        go_wp2_with fail
        refine (pick_any w.heap.size (p2 + 1 + 1 + 1 + 1) 6 _ R6.out (by omega) (by omega) (by omega)).mono ?_
        rintro e w7 ⟨y, rfl, hy, hr, hs⟩
        have O7 := Lib.hid (owns_step O6.out hs hw1)
        have B7 := Lib.hid (B6.out.trans (hs.below (Nat.le_refl _) B6.out.size))
        clear hs hr
        go_wp2
        go_ret3
        exact ⟨zs, _, c2, _, _, rfl, O7.out.mono (Nat.le_of_lt hw1), hz, B7.out⟩
      · have h0 := hcell i (by omega)
        clear hcell
        go_wp2_with fail
        refine (pick_any w.heap.size (p2 + 1 + 1 + 1 + 1) 6 _ R6.out (by omega) (by omega) (by omega)).mono ?_
        rintro e w7 ⟨y, rfl, hy, hr, hs⟩
        have O7 := Lib.hid (owns_step O6.out hs hw1)
        have B7 := Lib.hid (B6.out.trans (hs.below (Nat.le_refl _) B6.out.size))
        clear hs hr
        go_wp2
        go_ret3
        exact ⟨zs, _, c2, _, _, rfl, O7.out.mono (Nat.le_of_lt hw1), hz, B7.out⟩

end Go.Proofs.Ytppnngccjlnejaa
