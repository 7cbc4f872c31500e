/-
  The draw of a text (DrawBallotParse): a short text, and nothing is written that was there. No condition but what each theorem says.
-/
import Derived.Test.YtppnngccjlnejaaDrawC
import Derived.Test.YtppnngccjlnejaaTextB
namespace Go.Proofs.Ytppnngccjlnejaa
open Go.RowKit

theorem txtB_short (zs : List Int) : (txtB zs).size ≤ zs.length := by
  unfold txtB
  split
  · rw [txtOf_size]; exact Nat.le_refl _
  · exact Nat.zero_le _

/-- A text that was picked from a list; the reader has gone on. -/
def PickedText (R p : Nat) (w : World) (e : Ending) (w' : World) : Prop := ∃ s : ByteArray, e = .returned (.string s) ∧ s.size ≤ 50 ∧ Rd w' R (p + 1) ∧ Step R w w'

set_option maxHeartbeats 1000000 in
/-- **of**: one of a list's texts. -/
theorem of_any (R p b n cap : Nat) (w : World) (h : Rd w R p) (hp : p + 30 ≤ 1000000) (hb : b < w.heap.size) (hbR : b ≠ R) (hn : 0 < n) (hn' : n ≤ 1000) (hc : ∀ j, j < n → ∃ s : ByteArray, s.size ≤ 50 ∧ w.cell? ⟨b, j, none⟩ = some (.string s)) :
    Calls Try.prog 47 #[.pointer (some ⟨R, 0, none⟩), .slice (some ⟨b, 0, none⟩) n cap] w (PickedText R p w) := by
  have HC := Lib.hid hc; clear hc
  have H := Lib.hid h; clear h
  go_enter Try.func47, Try.ntmps47
  go_wp2_with fail
  refine (pick_any R p (n : Int) _ H.out (by omega) (by omega) (by omega)).mono ?_
  rintro e w2 ⟨i, rfl, hi, hr, hs⟩
  have R2 := Lib.hid hr
  have S2 := Lib.hid hs
  obtain ⟨s, hs50, hcell⟩ := HC.out i (by omega)
  have hcell2 : w2.cell? ⟨b, i, none⟩ = some (.string s) := (World.cell?_of_block (hs.block b hb (by intro e; cases e; exact hbR rfl))).trans hcell
  clear hr hs hcell
  go_wp2
  go_ret
  exact ⟨s, rfl, hs50, R2.out, S2.out⟩

/-- What the draw of a text says to its caller. -/
def DrawnText (w : World) (e : Ending) (w' : World) : Prop := ∃ s : ByteArray, e = .returned (.string s) ∧ s.size ≤ 100 ∧ Below w.heap.size w w'

theorem six_at (w : World) (t : TypeId) (s0 s1 s2 s3 s4 s5 : ByteArray) (h0 : s0.size ≤ 50) (h1 : s1.size ≤ 50) (h2 : s2.size ≤ 50) (h3 : s3.size ≤ 50) (h4 : s4.size ≤ 50) (h5 : s5.size ≤ 50) :
    ∀ j, j < 6 → ∃ s : ByteArray, s.size ≤ 50 ∧ (w.alloc (.cells #[.string s0, .string s1, .string s2, .string s3, .string s4, .string s5] t)).cell? ⟨w.heap.size, j, none⟩ = some (.string s) := by
  intro j hj
  rw [World.cell?_alloc_mark w _ t (0, 0) j]
  have e : j = 0 ∨ j = 1 ∨ j = 2 ∨ j = 3 ∨ j = 4 ∨ j = 5 := by omega
  rcases e with rfl | rfl | rfl | rfl | rfl | rfl
  · exact ⟨_, h0, rfl⟩
  · exact ⟨_, h1, rfl⟩
  · exact ⟨_, h2, rfl⟩
  · exact ⟨_, h3, rfl⟩
  · exact ⟨_, h4, rfl⟩
  · exact ⟨_, h5, rfl⟩

set_option maxHeartbeats 2000000 in
/-- **DrawBallotParse**. -/
theorem drawParse_any (a : Option Addr) (len cap : Nat) (bs : List Int) (w : World) (h : IsBytes w a len bs) (hcap : len ≤ cap) (hl : len ≤ 1048600) :
    Calls Try.prog 21 #[.slice a len cap] w (DrawnText w) := by
  have H := Lib.hid h; clear h
  go_enter Try.func21, Try.ntmps21
  go_wp2_with fail
  refine (open_any a len cap bs _ H.out hcap hl).mono ?_
  rintro e w1 ⟨rfl, hr, hb⟩
  have R1 := Lib.hid hr
  have B1 := Lib.hid hb
  have hw1 : w.heap.size < w1.heap.size := hr.1
  clear hr hb
  go_wp2_with fail
  refine (l91Ballot_any w.heap.size 0 5 _ R1.out (by omega) (by omega) (by omega)).mono ?_
  rintro e w2 ⟨zs, a2, c2, p2, rfl, ho, hz, hr, hp2, hs⟩
  have R2 := Lib.hid hr
  have I2 := Lib.hid (IsInts.of_owned ho (by omega))
  have B2 := Lib.hid (B1.out.trans (hs.below (Nat.le_refl _) (Nat.le_of_lt hw1)))
  clear ho hs hr R1 B1
  have hts := txtB_short zs
  go_wp2_with fail
  refine (specText_any _ _ _ zs _ I2.out).mono ?_
  rintro e w3 ⟨rfl, hd⟩
  have R3 := Lib.hid (R2.out.below (hd.below _))
  have B3 := Lib.hid (B2.out.trans (hd.below _))
  clear hd R2 B2 I2
  obtain ⟨s, hs⟩ : ∃ s, txtB zs = s := ⟨_, rfl⟩
  rw [hs] at hts ⊢
  clear hs
  go_wp2_with fail
  refine (pick_any w.heap.size p2 4 _ R3.out (by omega) (by omega) (by omega)).mono ?_
  rintro e w4 ⟨d, rfl, hd, hr, hs⟩
  have R4 := Lib.hid hr
  have hw4 : w.heap.size < w4.heap.size := hr.1
  have B4 := Lib.hid (B3.out.trans (hs.below (Nat.le_refl _) B3.out.size))
  clear hs hr R3 B3
  cases hd0 : ((d : Int) == 0)
  · go_wp2
    go_ret
    exact ⟨s, rfl, by omega, B4.out⟩
  · go_wp2_with fail
    refine (of_any w.heap.size (p2 + 1) w4.heap.size 6 _ _ (R4.out.below ((Below.refl _ w4).alloc (Nat.le_refl _) _)) (by omega) (by simp) (by omega) (by omega) (by omega) (six_at w4 _ _ _ _ _ _ _ (by decide) (by decide) (by decide) (by decide) (by decide) (by decide))).mono ?_
    rintro e w5 ⟨t, rfl, ht, hr, hs⟩
    have B5 := Lib.hid ((B4.out.alloc (Nat.le_of_lt hw4) _).trans (hs.below (Nat.le_refl _) (by simp; omega)))
    clear hs hr
    have hsum : ¬ (s.size + t.size > 9223372036854775807) := by omega
    go_wp2
    go_ret
    exact ⟨s ++ t, rfl, by rw [ByteArray.size_append]; omega, B5.out⟩

end Go.Proofs.Ytppnngccjlnejaa
