/-
  The draws of marks (DrawMarksRead) and of a ballot and a number (DrawMarksOf): what each returns, and that nothing is written that was there.
-/
import Derived.Test.YtpgnneaaemfkoaaDoorDrawM
import Derived.Test.YtpgnneaaemfkoaaDoorDrawV
namespace Go.Proofs.YtpgnneaaemfkoaaDoor
open Go.RowKit

/-- What the draw of marks says to its caller. -/
def DrawnMs (w : World) (e : Ending) (w' : World) : Prop := ∃ (zs : List Int) (a : Option Addr) (cap : Nat), e = .returned (.slice a zs.length cap) ∧ w'.ownsRow w.heap.size 3 1 (.slice a zs.length cap) zs.length (zs.map (Value.int .i64)) ∧ zs.length ≤ 7 ∧ Below w.heap.size w w'

set_option maxHeartbeats 2000000 in
/-- **DrawMarksRead**. -/
theorem drawMarks_any (a : Option Addr) (len cap : Nat) (bs : List Int) (w : World) (h : IsBytes w a len bs) (hcap : len ≤ cap) (hl : len ≤ 1048600) :
    Calls Tryd.prog 13 #[.slice a len cap] w (DrawnMs w) := by
  have H := Lib.hid h; clear h
  go_enter Tryd.func13, Tryd.ntmps13
  go_wp2_with fail
  refine (open_any a len cap bs _ H.out hcap hl).mono ?_
  rintro e w1 ⟨rfl, hr, hb⟩
  have R1 := Lib.hid hr
  have B1 := Lib.hid hb
  have hw1 : w.heap.size < w1.heap.size := hr.1
  clear hr hb
  go_wp2_with fail
  refine (pick_any w.heap.size 0 16 _ R1.out (by omega) (by omega) (by omega)).mono ?_
  rintro e w2 ⟨d, rfl, hd, hr, hs⟩
  have R2 := Lib.hid hr
  have B2 := Lib.hid (B1.out.trans (hs.below (Nat.le_refl _) (Nat.le_of_lt hw1)))
  have hw2 : w.heap.size < w2.heap.size := hr.1
  clear hr hs R1 B1
  cases hd0 : ((d : Int) == 0)
  · go_wp2_with fail
    refine (pick_any w.heap.size 1 5 _ R2.out (by omega) (by omega) (by omega)).mono ?_
    rintro e w3 ⟨m, rfl, hm, hr, hs⟩
    have R3 := Lib.hid hr
    have B3 := Lib.hid (B2.out.trans (hs.below (Nat.le_refl _) (Nat.le_of_lt hw2)))
    have hw3 : w.heap.size < w3.heap.size := hr.1
    clear hr hs R2 B2
    obtain ⟨n, hn⟩ : ∃ n, 1 + m = n := ⟨_, rfl⟩
    have hnm : (1 + (m : Int)) = (n : Int) := by omega
    have hn5 : n ≤ 7 := by omega
    clear hn hm
    go_wp2_with fail
    refine (l91Marks_any w.heap.size 2 n _ R3.out (by omega) hn5).mono ?_
    rintro e w4 ⟨zs, a4, c4, p4, rfl, ho, hz, hr, hp, hs⟩
    have B4 := Lib.hid (B3.out.trans (hs.below (Nat.le_refl _) (Nat.le_of_lt hw3)))
    have O4 := Lib.hid (ho.mono (base' := w.heap.size) (Nat.le_of_lt hw3))
    have HZ := Lib.hid hz
    clear hr hs ho hz
    go_wp2
    go_ret
    exact ⟨zs, a4, c4, by rw [HZ.out]; rfl, by rw [HZ.out]; exact O4.out, by rw [HZ.out]; exact hn5, B4.out⟩
  · go_wp2_with fail
    refine (pick_any w.heap.size 1 8 _ R2.out (by omega) (by omega) (by omega)).mono ?_
    rintro e w3 ⟨n, rfl, hn, hr, hs⟩
    have R3 := Lib.hid hr
    have B3 := Lib.hid (B2.out.trans (hs.below (Nat.le_refl _) (Nat.le_of_lt hw2)))
    have hw3 : w.heap.size < w3.heap.size := hr.1
    have hn5 : n ≤ 7 := by omega
    clear hr hs R2 B2
    go_wp2_with fail
    refine (l91Marks_any w.heap.size 2 n _ R3.out (by omega) hn5).mono ?_
    rintro e w4 ⟨zs, a4, c4, p4, rfl, ho, hz, hr, hp, hs⟩
    have B4 := Lib.hid (B3.out.trans (hs.below (Nat.le_refl _) (Nat.le_of_lt hw3)))
    have O4 := Lib.hid (ho.mono (base' := w.heap.size) (Nat.le_of_lt hw3))
    have HZ := Lib.hid hz
    clear hr hs ho hz
    go_wp2
    go_ret
    exact ⟨zs, a4, c4, by rw [HZ.out]; rfl, by rw [HZ.out]; exact O4.out, by rw [HZ.out]; exact hn5, B4.out⟩

set_option maxHeartbeats 2000000 in
/-- **DrawMarksOf**. -/
theorem drawOf_any (a : Option Addr) (len cap : Nat) (bs : List Int) (w : World) (h : IsBytes w a len bs) (hcap : len ≤ cap) (hl : len ≤ 1048600) :
    Calls Tryd.prog 8 #[.slice a len cap] w (DrawnOne w) := by
  have H := Lib.hid h; clear h
  go_enter Tryd.func8, Tryd.ntmps8
  go_wp2_with fail
  refine (drawValid_any a len cap bs _ H.out hcap hl).mono ?_
  rintro e w1 ⟨zs, a1, c1, n, rfl, ho, hz, hb⟩
  have O1 := Lib.hid ho
  have B1 := Lib.hid hb
  clear ho hb
  go_wp2
  go_ret2
  exact ⟨zs, a1, c1, n, rfl, O1.out, hz, B1.out⟩

end Go.Proofs.YtpgnneaaemfkoaaDoor
