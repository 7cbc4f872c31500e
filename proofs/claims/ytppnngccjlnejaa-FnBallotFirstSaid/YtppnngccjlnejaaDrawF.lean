/-
  The draw of a ballot and of who has left (DrawBallotFirst): what it returns, and that nothing is written that was there.
-/
import Derived.Test.YtppnngccjlnejaaDrawC
import Derived.Test.YtppnngccjlnejaaLawsB
namespace Go.Proofs.Ytppnngccjlnejaa
open Go.RowKit

theorem IsBools.of_owned {w : World} {base len cap : Nat} {a : Option Addr} {zs : List Bool} (h : w.ownsRow base 4 1 (.slice a len cap) len (zs.map Value.bool)) (hl : len ≤ 1048600) : IsBools w a len cap zs := by
  rcases h.2 with ⟨e, e0⟩ | ⟨g, c, _, e, _⟩
  · subst e0
    have hz : zs = [] := by have := h.1; simpa using this
    subst hz
    exact ⟨rfl, Nat.zero_le _, hl, fun hp => by omega⟩
  · injection e with e1 e2 e3
    subst e1
    exact IsBools.of_owns h hl

/-- Who has left, drawn: in memory of the call's own; the reader has gone on. -/
def DrawnLeft (R p : Nat) (w : World) (e : Ending) (w' : World) : Prop := ∃ (zs : List Bool) (a : Option Addr) (cap p' : Nat), e = .returned (.slice a zs.length cap) ∧ w'.ownsRow w.heap.size 4 1 (.slice a zs.length cap) zs.length (zs.map Value.bool) ∧ zs.length ≤ 10 ∧ Rd w' R p' ∧ p' ≤ p + 10 ∧ Step R w w'

set_option maxHeartbeats 2000000 in
/-- **l91Left**. -/
theorem l91Left_any (R p n : Nat) (w : World) (h : Rd w R p) (hp : p + 30 ≤ 1000000) (hn : n ≤ 10) :
    Calls Try.prog 48 #[.pointer (some ⟨R, 0, none⟩), .int .i64 (n : Int)] w (DrawnLeft R p w) := by
  obtain ⟨i0, hi, hz0, hz1, hz2⟩ := info_parts bool_info
  have hRw := h.1
  have HO0 := Lib.hid (World.ownsRow_lit (base := w.heap.size) (e := 4) (size := 1) w #[] 0 (Nat.le_refl _) (by unfold maxLen; omega) rfl)
  have H0 : Hid (Rd (w.alloc (.cells #[] 4)) R p) := h.below ((Below.refl _ w).alloc (Nat.le_refl _) _)
  have S0 : Hid (Step R w (w.alloc (.cells #[] 4))) := (Step.refl R w).alloc _
  clear h
  go_enter Try.func48, Try.ntmps48
  go_wp2
  go_loopw [5, 6] (fun o i wr => ∃ (k : Nat) (zs : List Bool) (a : Option Addr) (cap p' : Nat), k ≤ n ∧ i = .int .i64 k ∧ o = .slice a zs.length cap ∧ Hid (wr.ownsRow w.heap.size 4 1 (.slice a zs.length cap) zs.length (zs.map Value.bool)) ∧ zs.length ≤ k ∧ Hid (Rd wr R p') ∧ p' ≤ p + k ∧ Hid (Step R w wr)) (fun _ i _ => n - (intOf i).toNat)
  case atStart => exact ⟨0, [], _, _, p, by omega, rfl, rfl, HO0, by simp, H0, by omega, S0⟩
  case round =>
    obtain ⟨k, zs, a, cap, p', hkn, rfl, rfl, ho, hzk, hr, hp', hs⟩ := hrel
    by_cases hlt : k < n
    · go_wp2_with fail
      refine (pick_any R p' 3 _ hr.out (by omega) (by omega) (by omega)).mono ?_
      rintro e w2 ⟨c, rfl, hc, hr2, hs2⟩
      have R2 := Lib.hid hr2
      have O2 := Lib.hid (owns_step ho.out hs2 hRw)
      have S2 := Lib.hid (hs.out.trans hs2)
      clear hr ho hs hr2 hs2
      go_wp2_with (at_builtin; refine wpList_append_own _ rfl _ _ 35 rfl w.heap.size 4 i0 (.bool false) 1 1 Try.underlying35 hi hz0 hz1 hz2 rfl (by decide) _ _ _ rfl (O2.out.alloc _) ⟨w2.heap.size, 0, none⟩ 1 1 [.bool ((c : Int) == 0)] rfl rfl (cell_one_new _ _ _) (by simp [Value.oneCell']) (by unfold maxLen; omega) (by omega) (by have := S2.out.size; simp; omega) ?_; intro v' w4 hown' hgrow _; obtain ⟨a4, cap4, rfl⟩ := owns_slice hown')
      have hrow : ∀ j, (Value.slice a zs.length cap).ownBlock = some j → w.heap.size ≤ j := fun j ej => (O2.out.lt j ej).1
      have R4 : Hid (Rd w4 R (p' + 1)) := (R2.out.below ((Below.refl _ w2).alloc (Nat.le_refl _) _)).grown hgrow (fun j ej => by have := hrow j ej; omega)
      have S4 : Hid (Step R w w4) := (S2.out.alloc _).grown hgrow (fun j ej => .inl (hrow j ej))
      have hlen : (zs ++ [(c : Int) == 0]).length = zs.length + 1 := by simp
      have O4 : Hid (w4.ownsRow w.heap.size 4 1 (.slice a4 (zs ++ [(c : Int) == 0]).length cap4) (zs ++ [(c : Int) == 0]).length ((zs ++ [(c : Int) == 0]).map Value.bool)) := by
        unfold Hid; rw [hlen, List.map_append]; exact hown'
      have HL := Lib.hid hlen
      clear hown' hgrow hrow hlen
      go_wp2
      go_roundw
      case rel => exact ⟨k + 1, zs ++ [(c : Int) == 0], a4, cap4, p' + 1, by omega, by go_num, by rw [HL.out], O4, by rw [HL.out]; omega, R4, by omega, S4⟩
      case measure => simp [intOf]; omega
    · go_wp2
      go_ret
      exact ⟨zs, a, cap, p', rfl, ho.out, by omega, hr.out, by omega, hs.out⟩

/-- What the draw of a ballot and of who has left says to its caller. -/
def DrawnFirst (w : World) (e : Ending) (w' : World) : Prop := ∃ (zs : List Int) (a : Option Addr) (cap : Nat) (L : List Bool) (a' : Option Addr) (cap' : Nat), e = .returned (.tuple #[.slice a zs.length cap, .slice a' L.length cap']) ∧
  w'.ownsRow w.heap.size 3 1 (.slice a zs.length cap) zs.length (zs.map (Value.int .i64)) ∧ zs.length ≤ 10 ∧ w'.ownsRow w.heap.size 4 1 (.slice a' L.length cap') L.length (L.map Value.bool) ∧ L.length ≤ 10 ∧ Below w.heap.size w w'

set_option maxHeartbeats 2000000 in
/-- **DrawBallotFirst**. -/
theorem drawFirst_any (a : Option Addr) (len cap : Nat) (bs : List Int) (w : World) (h : IsBytes w a len bs) (hcap : len ≤ cap) (hl : len ≤ 1048600) :
    Calls Try.prog 25 #[.slice a len cap] w (DrawnFirst w) := by
  have H := Lib.hid h; clear h
  go_enter Try.func25, Try.ntmps25
  go_wp2_with fail
  refine (open_any a len cap bs _ H.out hcap hl).mono ?_
  rintro e w1 ⟨rfl, hr, hb⟩
  have R1 := Lib.hid hr
  have B1 := Lib.hid hb
  have hw1 : w.heap.size < w1.heap.size := hr.1
  clear hr hb
  go_wp2_with fail
  refine (pick_any w.heap.size 0 5 _ R1.out (by omega) (by omega) (by omega)).mono ?_
  rintro e w2 ⟨m, rfl, hm, hr, hs⟩
  have R2 := Lib.hid hr
  have B2 := Lib.hid (B1.out.trans (hs.below (Nat.le_refl _) (Nat.le_of_lt hw1)))
  have hw2 : w.heap.size < w2.heap.size := hr.1
  clear hr hs R1 B1
  go_wp2_with fail
  refine (l91Ballot_any w.heap.size (0 + 1) (1 + (m : Int)) _ R2.out (by omega) (by omega) (by omega)).mono ?_
  rintro e w3 ⟨zs, a2, c2, p2, rfl, ho, hz, hr, hp2, hs⟩
  have R3 := Lib.hid hr
  have O3 := Lib.hid ho
  have B3 := Lib.hid (B2.out.trans (hs.below (Nat.le_refl _) (Nat.le_of_lt hw2)))
  clear ho hs hr R2 B2
  go_wp2_with fail
  refine (pick_any w.heap.size p2 12 _ R3.out (by omega) (by omega) (by omega)).mono ?_
  rintro e w4 ⟨d, rfl, hd, hr, hs⟩
  have R4 := Lib.hid hr
  have O4 := Lib.hid (owns_step O3.out hs hw2)
  have B4 := Lib.hid (B3.out.trans (hs.below (Nat.le_refl _) B3.out.size))
  clear hs hr R3 B3 O3
  cases hd0 : ((d : Int) == 0)
  · go_wp2_with fail
    rw [show (1 + (m : Int)) = ((1 + m : Nat) : Int) from by omega]
    refine (l91Left_any w.heap.size (p2 + 1) (1 + m) _ R4.out (by omega) (by omega)).mono ?_
    rintro e w5 ⟨L, a5, c5, p5, rfl, ho, hL, hr, hp5, hs⟩
    have O5 := Lib.hid (owns_step O4.out hs hw2)
    have P5 := Lib.hid (ho.mono (base' := w.heap.size) B4.out.size)
    have B5 := Lib.hid (B4.out.trans (hs.below (Nat.le_refl _) B4.out.size))
    clear hs hr ho
    go_wp2
    go_ret2
    exact ⟨zs, a2, c2, L, a5, c5, rfl, O5.out.mono (Nat.le_of_lt hw2), hz, P5.out, hL, B5.out⟩
  · go_wp2_with fail
    refine (pick_any w.heap.size (p2 + 1) 8 _ R4.out (by omega) (by omega) (by omega)).mono ?_
    rintro e w5 ⟨q, rfl, hq, hr, hs⟩
    have R5 := Lib.hid hr
    have O5 := Lib.hid (owns_step O4.out hs hw2)
    have B5 := Lib.hid (B4.out.trans (hs.below (Nat.le_refl _) B4.out.size))
    clear hs hr R4 B4 O4
    go_wp2_with fail
    refine (l91Left_any w.heap.size (p2 + 1 + 1) q _ R5.out (by omega) (by omega)).mono ?_
    rintro e w6 ⟨L, a5, c5, p5, rfl, ho, hL, hr, hp5, hs⟩
    have O6 := Lib.hid (owns_step O5.out hs hw2)
    have P6 := Lib.hid (ho.mono (base' := w.heap.size) B5.out.size)
    have B6 := Lib.hid (B5.out.trans (hs.below (Nat.le_refl _) B5.out.size))
    clear hs hr ho
    go_wp2
    go_ret2
    exact ⟨zs, a2, c2, L, a5, c5, rfl, O6.out.mono (Nat.le_of_lt hw2), hz, P6.out, hL, B6.out⟩

end Go.Proofs.Ytppnngccjlnejaa
