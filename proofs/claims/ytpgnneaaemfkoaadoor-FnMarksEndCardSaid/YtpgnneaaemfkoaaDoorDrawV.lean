/-
  The draw of a ballot and a number of candidates (DrawBallotValid): what it returns, and that nothing is written that was there.
-/
import Derived.Test.YtpgnneaaemfkoaaDoorDrawB
import Derived.Deep.Onto
namespace Go.Proofs.YtpgnneaaemfkoaaDoor
open Go.RowKit

/-- What the draw of a ballot and a number says to its caller. -/
def DrawnOne (w : World) (e : Ending) (w' : World) : Prop := ∃ (zs : List Int) (a : Option Addr) (cap : Nat) (n : Int), e = .returned (.tuple #[.slice a zs.length cap, .int .i64 n]) ∧ w'.ownsRow w.heap.size 3 1 (.slice a zs.length cap) zs.length (zs.map (Value.int .i64)) ∧ zs.length ≤ 10 ∧ Below w.heap.size w w'

set_option maxHeartbeats 2000000 in
/-- **DrawBallotValid**. -/
theorem drawValid_any (a : Option Addr) (len cap : Nat) (bs : List Int) (w : World) (h : IsBytes w a len bs) (hcap : len ≤ cap) (hl : len ≤ 1048600) :
    Calls Tryd.prog 21 #[.slice a len cap] w (DrawnOne w) := by
  have H := Lib.hid h; clear h
  go_enter Tryd.func21, Tryd.ntmps21
  go_wp2_with fail
  refine (open_any a len cap bs _ H.out hcap hl).mono ?_
  rintro e w1 ⟨rfl, hr, hb⟩
  have R1 := Lib.hid hr
  have B1 := Lib.hid hb
  have hw1 : w.heap.size < w1.heap.size := hr.1
  clear hr hb
  go_wp2_with fail
  refine (pick_any w.heap.size 0 5 _ R1.out (by omega) (by omega) (by omega)).mono ?_
  rintro e w2 ⟨m, rfl, hm, hr, hs⟩
  have R2 := Lib.hid hr
  have B2 := Lib.hid (B1.out.trans (hs.below (Nat.le_refl _) (Nat.le_of_lt hw1)))
  have hw2 : w.heap.size < w2.heap.size := hr.1
  clear hr hs R1 B1
  go_wp2_with fail
  refine (l91Ballot_any w.heap.size (0 + 1) (1 + (m : Int)) _ R2.out (by omega) (by omega) (by omega)).mono ?_
  rintro e w3 ⟨zs, a2, c2, p2, rfl, ho, hz, hr, hp2, hs⟩
  have R3 := Lib.hid hr
  have O3 := Lib.hid ho
  have B3 := Lib.hid (B2.out.trans (hs.below (Nat.le_refl _) (Nat.le_of_lt hw2)))
  clear ho hs hr R2 B2
  go_wp2_with fail
  refine (pick_any w.heap.size p2 8 _ R3.out (by omega) (by omega) (by omega)).mono ?_
  rintro e w4 ⟨d, rfl, hd, hr, hs⟩
  have R4 := Lib.hid hr
  have O4 := Lib.hid (owns_step O3.out hs hw2)
  have B4 := Lib.hid (B3.out.trans (hs.below (Nat.le_refl _) B3.out.size))
  clear hs hr R3 B3 O3
  cases hd0 : ((d : Int) == 0)
  · go_wp2
    go_ret2
    exact ⟨zs, a2, c2, _, rfl, O4.out.mono (Nat.le_of_lt hw2), hz, B4.out⟩
  · go_wp2_with fail
    refine (pick_any w.heap.size (p2 + 1) 8 _ R4.out (by omega) (by omega) (by omega)).mono ?_
    rintro e w5 ⟨q, rfl, hq, hr, hs⟩
    have O5 := Lib.hid (owns_step O4.out hs hw2)
    have B5 := Lib.hid (B4.out.trans (hs.below (Nat.le_refl _) B4.out.size))
    clear hs hr
    go_wp2
    go_ret2
    exact ⟨zs, a2, c2, _, rfl, O5.out.mono (Nat.le_of_lt hw2), hz, B5.out⟩

end Go.Proofs.YtpgnneaaemfkoaaDoor
