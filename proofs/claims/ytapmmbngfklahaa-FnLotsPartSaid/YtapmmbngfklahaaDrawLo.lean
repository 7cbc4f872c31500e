/-
  Lots, drawn (l91Lots, DrawLotsValid, DrawLotsFirst): a new slice of ints (and one of bools); nothing is written that was there. No condition but what each theorem says.
-/
import Derived.Test.YtapmmbngfklahaaDrawLe
import Derived.Test.YtapmmbngfklahaaLotOS
namespace Go.Proofs.Ytapmmbngfklahaa
open Go.RowKit

theorem Step.of_below {R : Nat} {w w' : World} (hb : Below w.heap.size w w') : Step R w w' := ⟨hb.os, hb.tape, hb.output, hb.size, fun k hk _ => hb.block k hk⟩

/-- A shorter part of a list that is owned. -/
theorem owns_part {w : World} {base g n cap k : Nat} {xs : List Value} {e : TypeId} (h : w.ownsRow base e 1 (.slice (some ⟨g, 0, none⟩) n cap) n xs) (hk : k ≤ n) : w.ownsRow base e 1 (.slice (some ⟨g, 0, none⟩) k cap) k (xs.take k) := by
  have hl := h.1
  refine ⟨by simp; omega, ?_⟩
  rcases h.2 with ⟨e0, _⟩ | ⟨g', c, cur, e1, h1, h2, h3, h4, h5, h6⟩
  · cases e0
  · injection e1 with e2 _ e3
    injection e2 with e2
    injection e2 with e2
    subst e2; subst e3
    refine .inr ⟨g, cap, cur, rfl, h1, h2, by omega, h4, h5, ?_⟩
    rw [← h6, List.take_take]; congr 1; omega

theorem owns_not {w w' : World} {R base n size : Nat} {e : TypeId} {v : Value} {xs : List Value} (h : w.ownsRow base e size v n xs) (hs : Step R w w') (hR : ∀ j, v.ownBlock = some j → j ≠ R) : w'.ownsRow base e size v n xs := by
  refine h.kept hs ?_
  cases hb : v.ownBlock with
  | none => exact .inl rfl
  | some k => right; intro e2; injection e2 with e3; exact hR k hb e3
theorem left_as (R p n : Nat) (q : Int) (w : World) (h : Rd w R p) (hp : p + 30 ≤ 1000000) (hn : n ≤ 10) (hq : q = (n : Int)) :
    Calls Try.prog 40 #[.pointer (some ⟨R, 0, none⟩), .int .i64 q] w (DrawnLeft R p w) := by
  subst hq; exact l91Left_any R p n w h hp hn

/-- Lots that were drawn: in memory of the call's own; the reader has gone on. -/
def DrawnLots (R p : Nat) (w : World) (e : Ending) (w' : World) : Prop := ∃ (zs : List Int) (a : Option Addr) (cap p' : Nat), e = .returned (.slice a zs.length cap) ∧ w'.ownsRow w.heap.size 3 1 (.slice a zs.length cap) zs.length (zs.map (Value.int .i64)) ∧ zs.length ≤ 5 ∧ Rd w' R p' ∧ p' ≤ p + 10 ∧ Step R w w'

set_option maxRecDepth 100000 in
set_option maxHeartbeats 2000000 in
/-- **l91Lots**. -/
theorem l91Lots_any (R p : Nat) (n : Int) (w : World) (h : Rd w R p) (hp : p + 30 ≤ 1000000) :
    Calls Try.prog 39 #[.pointer (some ⟨R, 0, none⟩), .int .i64 n] w (DrawnLots R p w) := by
  have hRw := h.1
  have H0 := Lib.hid h; clear h
  go_enter Try.func39, Try.ntmps39
  go_wp2_with fail
  refine (pick_any R p 256 _ H0.out (by omega) (by omega) (by omega)).mono ?_
  rintro e w1 ⟨c, rfl, hc, hr1, hs1⟩
  have R1 := Lib.hid hr1
  have S1 := Lib.hid hs1
  clear H0 hr1 hs1
  obtain ⟨pl, hpl⟩ : ∃ pl, lotsI n ((c : Int) * 3) = pl := ⟨_, rfl⟩
  obtain ⟨ok, hok⟩ : ∃ ok, okLots n ((c : Int) * 3) = ok := ⟨_, rfl⟩
  have hp5 : pl.length ≤ 5 := by rw [← hpl]; exact lotsI_short _ _
  have hp1 : ok = true → 1 ≤ pl.length := fun e => by
    rw [e] at hok
    have := okLots_of hok
    have := lotsI_length hok
    rw [hpl] at this
    omega
  have HP := Lib.hid hpl
  have HK := Lib.hid hok
  have hp1 := Lib.hid hp1
  clear hpl hok
  go_wp2_with fail
  refine (specLotsOf_as _ _ pl ok _ HP.out HK.out).mono ?_
  rintro e w2 ⟨a2, c2, rfl, ho, hb⟩
  have R2 := Lib.hid (R1.out.below hb)
  have S2 := Lib.hid (S1.out.trans (Step.of_below hb))
  have O2 := Lib.hid (ho.mono S1.out.size)
  clear ho hb R1
  cases hk : ok
  · subst hk
    go_wp2
    go_ret
    exact ⟨pl, a2, c2, p + 1, rfl, O2.out, hp5, R2.out, by omega, S2.out⟩
  · subst hk
    have hp1 := hp1.out rfl
    go_wp2_with fail
    refine (pick_any R (p + 1) 24 _ R2.out (by omega) (by omega) (by omega)).mono ?_
    rintro e w3 ⟨d, rfl, hd, hr3, hs3⟩
    have R3 := Lib.hid hr3
    have O3 := Lib.hid (owns_step O2.out hs3 hRw)
    have S3 := Lib.hid (S2.out.trans hs3)
    clear hr3 hs3 R2 O2 S2 S1
    by_cases hd0 : 0 < d
    · have hdd : decide (0 < (d : Int)) = true := decide_eq_true (by omega)
      go_wp2
      go_ret
      exact ⟨pl, a2, c2, p + 1 + 1, rfl, O3.out, hp5, R3.out, by omega, S3.out⟩
    · have hdd : decide (0 < (d : Int)) = false := decide_eq_false (by omega)
      go_wp2_with fail
      refine (pick_any R (p + 1 + 1) (pl.length : Int) _ R3.out (by omega) (by omega) (by omega)).mono ?_
      rintro e w4 ⟨k, rfl, hk4, hr4, hs4⟩
      have R4 := Lib.hid hr4
      have O4 := Lib.hid (owns_step O3.out hs4 hRw)
      have S4 := Lib.hid (S3.out.trans hs4)
      clear hr4 hs4 R3 O3 S3
      have hkn : k < pl.length := by omega
      obtain ⟨g, rfl, hgw, hcap, hmx⟩ := owned_at O4.out (by omega)
      go_wp2_with fail
      refine (pick_any R (p + 1 + 1 + 1) 2 _ R4.out (by omega) (by omega) (by omega)).mono ?_
      rintro e w5 ⟨q, rfl, hq5, hr5, hs5⟩
      have R5 := Lib.hid hr5
      have O5 := Lib.hid (owns_step O4.out hs5 hRw)
      have S5 := Lib.hid (S4.out.trans hs5)
      clear hr5 hs5 R4 O4 S4
      cases hq0 : ((q : Int) == 0)
      · go_wp2_with fail
        refine (pick_any R (p + 1 + 1 + 1 + 1) 7 _ R5.out (by omega) (by omega) (by omega)).mono ?_
        rintro e w6 ⟨x, rfl, hx6, hr6, hs6⟩
        have R6 := Lib.hid hr6
        have O6 := Lib.hid (owns_step O5.out hs6 hRw)
        have S6 := Lib.hid (S5.out.trans hs6)
        clear hr6 hs6 R5 O5 S5
        have hgb := (O6.out.lt g rfl).1
        have hcell : w6.cell? ⟨g, k, none⟩ = some (.int .i64 (pl[k]?.getD 0)) := by rw [O6.out.cellAt k (by omega)]; simp [hkn]
        obtain ⟨z, hz⟩ : ∃ z, pl[k]?.getD 0 = z := ⟨_, rfl⟩
        rw [hz] at hcell
        have hfz := O6.out.frozenAt k
        have HS := Lib.hid (O6.out.stored k (.int .i64 ((x : Int) - 1)))
        have HR7 : Hid (Rd (w6.setCell ⟨g, k, none⟩ (.int .i64 ((x : Int) - 1))) R (p + 1 + 1 + 1 + 1 + 1)) := R6.out.grown (row := some g) ⟨rfl, rfl, rfl, by simp [World.setCell], fun i hi hne => Below.heap_setCell _ _ _ _ (fun e => hne (by rw [e]))⟩ (fun j ej => by injection ej with ej; omega)
        have HS7 : Hid (Step R w (w6.setCell ⟨g, k, none⟩ (.int .i64 ((x : Int) - 1)))) := S6.out.grown (row := some g) ⟨rfl, rfl, rfl, by simp [World.setCell], fun i hi hne => Below.heap_setCell _ _ _ _ (fun e => hne (by rw [e]))⟩ (fun j ej => by injection ej with ej; omega)
        clear hz
        go_wp2
        go_ret
        refine ⟨pl.set k ((x : Int) - 1), some ⟨g, 0, none⟩, c2, p + 1 + 1 + 1 + 1 + 1, by rw [List.length_set]; rfl, ?_, by rw [List.length_set]; exact hp5, HR7.out, by omega, HS7.out⟩
        rw [List.length_set, List.map_set]
        exact HS.out.1
      · go_wp2
        go_ret
        have hlt : (pl.take k).length = k := by simp; omega
        refine ⟨pl.take k, some ⟨g, 0, none⟩, c2, p + 1 + 1 + 1 + 1, by rw [hlt]; rfl, ?_, by rw [hlt]; omega, R5.out, by omega, S5.out⟩
        rw [hlt, List.map_take]
        exact owns_part O5.out (by omega)

/-- What the draw of lots says to its caller. -/
def DrawnL (w : World) (e : Ending) (w' : World) : Prop := ∃ (zs : List Int) (a : Option Addr) (cap : Nat), e = .returned (.slice a zs.length cap) ∧ w'.ownsRow w.heap.size 3 1 (.slice a zs.length cap) zs.length (zs.map (Value.int .i64)) ∧ zs.length ≤ 5 ∧ Below w.heap.size w w'

set_option maxHeartbeats 2000000 in
/-- **DrawLotsValid**. -/
theorem drawLotsValid_any (a : Option Addr) (len cap : Nat) (bs : List Int) (w : World) (h : IsBytes w a len bs) (hcap : len ≤ cap) (hl : len ≤ 1048600) :
    Calls Try.prog 22 #[.slice a len cap] w (DrawnL w) := by
  have H := Lib.hid h; clear h
  go_enter Try.func22, Try.ntmps22
  go_wp2_with fail
  refine (open_any a len cap bs _ H.out hcap hl).mono ?_
  rintro e w1 ⟨rfl, hr, hb⟩
  have R1 := Lib.hid hr
  have B1 := Lib.hid hb
  have hw1 : w.heap.size < w1.heap.size := hr.1
  clear hr hb
  go_wp2_with fail
  refine (pick_any w.heap.size 0 6 _ R1.out (by omega) (by omega) (by omega)).mono ?_
  rintro e w2 ⟨m, rfl, hm, hr, hs⟩
  have R2 := Lib.hid hr
  have B2 := Lib.hid (B1.out.trans (hs.below (Nat.le_refl _) (Nat.le_of_lt hw1)))
  have hw2 : w.heap.size < w2.heap.size := hr.1
  clear hr hs R1 B1
  go_wp2_with fail
  refine (l91Lots_any w.heap.size (0 + 1) (1 + (m : Int)) _ R2.out (by omega)).mono ?_
  rintro e w3 ⟨zs, a2, c2, p2, rfl, ho, hz, hr, hp2, hs⟩
  have O3 := Lib.hid ho
  have B3 := Lib.hid (B2.out.trans (hs.below (Nat.le_refl _) (Nat.le_of_lt hw2)))
  clear ho hs hr R2 B2
  go_wp2
  go_ret
  exact ⟨zs, a2, c2, rfl, O3.out.mono (Nat.le_of_lt hw2), hz, B3.out⟩

/-- What the draw of lots and of some candidates says to its caller. -/
def DrawnLF (w : World) (e : Ending) (w' : World) : Prop := ∃ (zs : List Int) (a : Option Addr) (cap : Nat) (L : List Bool) (a' : Option Addr) (cap' : Nat), e = .returned (.tuple #[.slice a zs.length cap, .slice a' L.length cap']) ∧ w'.ownsRow w.heap.size 3 1 (.slice a zs.length cap) zs.length (zs.map (Value.int .i64)) ∧ zs.length ≤ 5 ∧ w'.ownsRow w.heap.size 4 1 (.slice a' L.length cap') L.length (L.map Value.bool) ∧ L.length ≤ 10 ∧ Below w.heap.size w w'

set_option maxHeartbeats 2000000 in
/-- **DrawLotsFirst**. -/
theorem drawLotsFirst_any (a : Option Addr) (len cap : Nat) (bs : List Int) (w : World) (h : IsBytes w a len bs) (hcap : len ≤ cap) (hl : len ≤ 1048600) :
    Calls Try.prog 18 #[.slice a len cap] w (DrawnLF w) := by
  have H := Lib.hid h; clear h
  go_enter Try.func18, Try.ntmps18
  go_wp2_with fail
  refine (open_any a len cap bs _ H.out hcap hl).mono ?_
  rintro e w1 ⟨rfl, hr, hb⟩
  have R1 := Lib.hid hr
  have B1 := Lib.hid hb
  have hw1 : w.heap.size < w1.heap.size := hr.1
  clear hr hb
  go_wp2_with fail
  refine (pick_any w.heap.size 0 5 _ R1.out (by omega) (by omega) (by omega)).mono ?_
  rintro e w2 ⟨m, rfl, hm, hr, hs⟩
  have R2 := Lib.hid hr
  have B2 := Lib.hid (B1.out.trans (hs.below (Nat.le_refl _) (Nat.le_of_lt hw1)))
  have hw2 : w.heap.size < w2.heap.size := hr.1
  clear hr hs R1 B1
  go_wp2_with fail
  refine (l91Lots_any w.heap.size (0 + 1) (1 + (m : Int)) _ R2.out (by omega)).mono ?_
  rintro e w3 ⟨zs, a2, c2, p2, rfl, ho, hz, hr, hp2, hs⟩
  have R3 := Lib.hid hr
  have O3 := Lib.hid (ho.mono (Nat.le_of_lt hw2))
  have B3 := Lib.hid (B2.out.trans (hs.below (Nat.le_refl _) (Nat.le_of_lt hw2)))
  have hw3 : w.heap.size < w3.heap.size := hr.1
  have N3 : Hid (∀ j, (Value.slice a2 zs.length c2).ownBlock = some j → j ≠ w.heap.size) := fun j ej => by have := (ho.lt j ej).1; omega
  clear ho hs hr R2 B2
  go_wp2_with fail
  refine (pick_any w.heap.size p2 12 _ R3.out (by omega) (by omega) (by omega)).mono ?_
  rintro e w4 ⟨d, rfl, hd, hr, hs⟩
  have R4 := Lib.hid hr
  have O4 := Lib.hid (owns_not O3.out hs N3.out)
  have B4 := Lib.hid (B3.out.trans (hs.below (Nat.le_refl _) B3.out.size))
  have hw4 : w.heap.size < w4.heap.size := hr.1
  clear hr hs R3 O3 B3
  cases hd0 : ((d : Int) == 0)
  · go_wp2_with fail
    refine (left_as w.heap.size (p2 + 1) (1 + m) _ _ R4.out (by omega) (by omega) (by omega)).mono ?_
    rintro e w5 ⟨L, a5, c5, p5, rfl, hoL, hL, hr, hp5, hs⟩
    have O5 := Lib.hid (owns_not O4.out hs N3.out)
    have L5 := Lib.hid (hoL.mono (Nat.le_of_lt hw4))
    have B5 := Lib.hid (B4.out.trans (hs.below (Nat.le_refl _) B4.out.size))
    clear hr hs R4 O4 B4 hoL
    go_wp2
    go_ret2
    exact ⟨zs, a2, c2, L, a5, c5, rfl, O5.out, hz, L5.out, hL, B5.out⟩
  · go_wp2_with fail
    refine (pick_any w.heap.size (p2 + 1) 7 _ R4.out (by omega) (by omega) (by omega)).mono ?_
    rintro e w5 ⟨x, rfl, hx, hr, hs⟩
    have R5 := Lib.hid hr
    have O5 := Lib.hid (owns_not O4.out hs N3.out)
    have B5 := Lib.hid (B4.out.trans (hs.below (Nat.le_refl _) B4.out.size))
    have hw5 : w.heap.size < w5.heap.size := hr.1
    clear hr hs R4 O4 B4
    go_wp2_with fail
    refine (l91Left_any w.heap.size (p2 + 1 + 1) x _ R5.out (by omega) (by omega)).mono ?_
    rintro e w6 ⟨L, a5, c5, p5, rfl, hoL, hL, hr, hp5, hs⟩
    have O6 := Lib.hid (owns_not O5.out hs N3.out)
    have L6 := Lib.hid (hoL.mono (Nat.le_of_lt hw5))
    have B6 := Lib.hid (B5.out.trans (hs.below (Nat.le_refl _) B5.out.size))
    clear hr hs R5 O5 B5 hoL
    go_wp2
    go_ret2
    exact ⟨zs, a2, c2, L, a5, c5, rfl, O6.out, hz, L6.out, hL, B6.out⟩

end Go.Proofs.Ytapmmbngfklahaa
