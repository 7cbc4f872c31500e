/-
  Lots, drawn (l91Lots, DrawLotsValid, DrawLotsFirst): a new slice of ints (and one of bools); nothing is written that was there. No condition but what each theorem says.
  slices.IndexFunc and DeleteFunc at []int with the closure of impl's step (a number equal to a captured one), where the number stands once: it is taken out, in place. Nothing but the row's block is written.
  impl.BallotFirst: for every ballot of at most 1048600 ints and every list of at most 1048600 bools; neither writes into memory that was there.
  What the drawn statements of transfers get: valid piles, at most 5 lots, a number of seats from 0 to 4 (l93Transfer, DrawTransferSteps, DrawTransferWinners).
-/
import Derived.Test.YtafnmongglhlaaaGrp16
import Derived.Test.YtafnmongglhlaaaGrp20
import Derived.Test.YtafnmongglhlaaaGrp14
import Derived.Lib.SliceRun
import Derived.Test.YtafnmongglhlaaaGrp3
import Derived.Test.YtafnmongglhlaaaGrp12
import Derived.Test.YtafnmongglhlaaaGrp1
import Derived.Test.YtafnmongglhlaaaGrp5
import Derived.Test.YtafnmongglhlaaaGrp6
namespace Go.Proofs.Ytafnmongglhlaaa
open Go.RowKit

theorem Step.of_below {R : Nat} {w w' : World} (hb : Below w.heap.size w w') : Step R w w' := ⟨hb.os, hb.tape, hb.output, hb.size, fun k hk _ => hb.block k hk⟩

/-- A shorter part of a list that is owned. -/
theorem owns_part {w : World} {base g n cap k : Nat} {xs : List Value} {e : TypeId} (h : w.ownsRow base e 1 (.slice (some ⟨g, 0, none⟩) n cap) n xs) (hk : k ≤ n) : w.ownsRow base e 1 (.slice (some ⟨g, 0, none⟩) k cap) k (xs.take k) := by
  have hl := h.1
  refine ⟨by simp; omega, ?_⟩
  rcases h.2 with ⟨e0, _⟩ | ⟨g', c, cur, e1, h1, h2, h3, h4, h5, h6⟩
  · cases e0
  · injection e1 with e2 _ e3
    injection e2 with e2
    injection e2 with e2
    subst e2; subst e3
    refine .inr ⟨g, cap, cur, rfl, h1, h2, by omega, h4, h5, ?_⟩
    rw [← h6, List.take_take]; congr 1; omega

theorem owns_not {w w' : World} {R base n size : Nat} {e : TypeId} {v : Value} {xs : List Value} (h : w.ownsRow base e size v n xs) (hs : Step R w w') (hR : ∀ j, v.ownBlock = some j → j ≠ R) : w'.ownsRow base e size v n xs := by
  refine h.kept hs ?_
  cases hb : v.ownBlock with
  | none => exact .inl rfl
  | some k => right; intro e2; injection e2 with e3; exact hR k hb e3
/-- Lots that were drawn: in memory of the call's own; the reader has gone on. -/
def DrawnLots (R p : Nat) (w : World) (e : Ending) (w' : World) : Prop := ∃ (zs : List Int) (a : Option Addr) (cap p' : Nat), e = .returned (.slice a zs.length cap) ∧ w'.ownsRow w.heap.size 3 1 (.slice a zs.length cap) zs.length (zs.map (Value.int .i64)) ∧ zs.length ≤ 5 ∧ Rd w' R p' ∧ p' ≤ p + 10 ∧ Step R w w'

set_option maxRecDepth 100000 in
set_option maxHeartbeats 2000000 in
/-- **l91Lots**. -/
theorem l91Lots_any (R p : Nat) (n : Int) (w : World) (h : Rd w R p) (hp : p + 30 ≤ 1000000) :
    Calls Try.prog 75 #[.pointer (some ⟨R, 0, none⟩), .int .i64 n] w (DrawnLots R p w) := by
  have hRw := h.1
  have H0 := Lib.hid h; clear h
  go_enter Try.func75, Try.ntmps75
  go_wp2_with fail
  refine (pick_any R p 256 _ H0.out (by omega) (by omega) (by omega)).mono ?_
  rintro e w1 ⟨c, rfl, hc, hr1, hs1⟩
  have R1 := Lib.hid hr1
  have S1 := Lib.hid hs1
  clear H0 hr1 hs1
  obtain ⟨pl, hpl⟩ : ∃ pl, lotsI n ((c : Int) * 3) = pl := ⟨_, rfl⟩
  obtain ⟨ok, hok⟩ : ∃ ok, okLots n ((c : Int) * 3) = ok := ⟨_, rfl⟩
  have hp5 : pl.length ≤ 5 := by rw [← hpl]; exact lotsI_short _ _
  have hp1 : ok = true → 1 ≤ pl.length := fun e => by
    rw [e] at hok
    have := okLots_of hok
    have := lotsI_length hok
    rw [hpl] at this
    omega
  have HP := Lib.hid hpl
  have HK := Lib.hid hok
  have hp1 := Lib.hid hp1
  clear hpl hok
  go_wp2_with fail
  refine (specLotsOf_as _ _ pl ok _ HP.out HK.out).mono ?_
  rintro e w2 ⟨a2, c2, rfl, ho, hb⟩
  have R2 := Lib.hid (R1.out.below hb)
  have S2 := Lib.hid (S1.out.trans (Step.of_below hb))
  have O2 := Lib.hid (ho.mono S1.out.size)
  clear ho hb R1
  cases hk : ok
  · subst hk
    go_wp2
    go_ret
    exact ⟨pl, a2, c2, p + 1, rfl, O2.out, hp5, R2.out, by omega, S2.out⟩
  · subst hk
    have hp1 := hp1.out rfl
    go_wp2_with fail
    refine (pick_any R (p + 1) 24 _ R2.out (by omega) (by omega) (by omega)).mono ?_
    rintro e w3 ⟨d, rfl, hd, hr3, hs3⟩
    have R3 := Lib.hid hr3
    have O3 := Lib.hid (owns_step O2.out hs3 hRw)
    have S3 := Lib.hid (S2.out.trans hs3)
    clear hr3 hs3 R2 O2 S2 S1
    by_cases hd0 : 0 < d
    · have hdd : decide (0 < (d : Int)) = true := decide_eq_true (by omega)
      go_wp2
      go_ret
      exact ⟨pl, a2, c2, p + 1 + 1, rfl, O3.out, hp5, R3.out, by omega, S3.out⟩
    · have hdd : decide (0 < (d : Int)) = false := decide_eq_false (by omega)
      go_wp2_with fail
      refine (pick_any R (p + 1 + 1) (pl.length : Int) _ R3.out (by omega) (by omega) (by omega)).mono ?_
      rintro e w4 ⟨k, rfl, hk4, hr4, hs4⟩
      have R4 := Lib.hid hr4
      have O4 := Lib.hid (owns_step O3.out hs4 hRw)
      have S4 := Lib.hid (S3.out.trans hs4)
      clear hr4 hs4 R3 O3 S3
      have hkn : k < pl.length := by omega
      obtain ⟨g, rfl, hgw, hcap, hmx⟩ := owned_at O4.out (by omega)
      go_wp2_with fail
      refine (pick_any R (p + 1 + 1 + 1) 2 _ R4.out (by omega) (by omega) (by omega)).mono ?_
      rintro e w5 ⟨q, rfl, hq5, hr5, hs5⟩
      have R5 := Lib.hid hr5
      have O5 := Lib.hid (owns_step O4.out hs5 hRw)
      have S5 := Lib.hid (S4.out.trans hs5)
      clear hr5 hs5 R4 O4 S4
      cases hq0 : ((q : Int) == 0)
      · go_wp2_with fail
        refine (pick_any R (p + 1 + 1 + 1 + 1) 7 _ R5.out (by omega) (by omega) (by omega)).mono ?_
        rintro e w6 ⟨x, rfl, hx6, hr6, hs6⟩
        have R6 := Lib.hid hr6
        have O6 := Lib.hid (owns_step O5.out hs6 hRw)
        have S6 := Lib.hid (S5.out.trans hs6)
        clear hr6 hs6 R5 O5 S5
        have hgb := (O6.out.lt g rfl).1
        have hcell : w6.cell? ⟨g, k, none⟩ = some (.int .i64 (pl[k]?.getD 0)) := by rw [O6.out.cellAt k (by omega)]; simp [hkn]
        obtain ⟨z, hz⟩ : ∃ z, pl[k]?.getD 0 = z := ⟨_, rfl⟩
        rw [hz] at hcell
        have hfz := O6.out.frozenAt k
        have HS := Lib.hid (O6.out.stored k (.int .i64 ((x : Int) - 1)))
        have HR7 : Hid (Rd (w6.setCell ⟨g, k, none⟩ (.int .i64 ((x : Int) - 1))) R (p + 1 + 1 + 1 + 1 + 1)) := R6.out.grown (row := some g) ⟨rfl, rfl, rfl, by simp [World.setCell], fun i hi hne => Below.heap_setCell _ _ _ _ (fun e => hne (by rw [e]))⟩ (fun j ej => by injection ej with ej; omega)
        have HS7 : Hid (Step R w (w6.setCell ⟨g, k, none⟩ (.int .i64 ((x : Int) - 1)))) := S6.out.grown (row := some g) ⟨rfl, rfl, rfl, by simp [World.setCell], fun i hi hne => Below.heap_setCell _ _ _ _ (fun e => hne (by rw [e]))⟩ (fun j ej => by injection ej with ej; omega)
        clear hz
        go_wp2
        go_ret
        refine ⟨pl.set k ((x : Int) - 1), some ⟨g, 0, none⟩, c2, p + 1 + 1 + 1 + 1 + 1, by rw [List.length_set]; rfl, ?_, by rw [List.length_set]; exact hp5, HR7.out, by omega, HS7.out⟩
        rw [List.length_set, List.map_set]
        exact HS.out.1
      · go_wp2
        go_ret
        have hlt : (pl.take k).length = k := by simp; omega
        refine ⟨pl.take k, some ⟨g, 0, none⟩, c2, p + 1 + 1 + 1 + 1, by rw [hlt]; rfl, ?_, by rw [hlt]; omega, R5.out, by omega, S5.out⟩
        rw [hlt, List.map_take]
        exact owns_part O5.out (by omega)

/-- What the draw of lots says to its caller. -/
def DrawnL (w : World) (e : Ending) (w' : World) : Prop := ∃ (zs : List Int) (a : Option Addr) (cap : Nat), e = .returned (.slice a zs.length cap) ∧ w'.ownsRow w.heap.size 3 1 (.slice a zs.length cap) zs.length (zs.map (Value.int .i64)) ∧ zs.length ≤ 5 ∧ Below w.heap.size w w'

/-- What the draw of lots and of some candidates says to its caller. -/
def DrawnLF (w : World) (e : Ending) (w' : World) : Prop := ∃ (zs : List Int) (a : Option Addr) (cap : Nat) (L : List Bool) (a' : Option Addr) (cap' : Nat), e = .returned (.tuple #[.slice a zs.length cap, .slice a' L.length cap']) ∧ w'.ownsRow w.heap.size 3 1 (.slice a zs.length cap) zs.length (zs.map (Value.int .i64)) ∧ zs.length ≤ 5 ∧ w'.ownsRow w.heap.size 4 1 (.slice a' L.length cap') L.length (L.map Value.bool) ∧ L.length ≤ 10 ∧ Below w.heap.size w w'

end Go.Proofs.Ytafnmongglhlaaa

namespace Go.Proofs.Ytafnmongglhlaaa
open Go.RowKit

attribute [local go_sem] Oper.semAt_some

/-- The closure that asks for a number. -/
def isV (b : Nat) : Value := .func (.func 116) #[] #[.pointer (some ⟨b, 0, none⟩)]
set_option maxHeartbeats 1000000 in
theorem isV_any (b : Nat) (z who : Int) (v : Bool) (w : World) (h : w.cell? ⟨b, 0, none⟩ = some (.int .i64 who)) (hv : (z == who) = v) :
    Calls Try.prog 116 #[.int .i64 z, .pointer (some ⟨b, 0, none⟩)] w fun e w' => e = .returned (.bool v) ∧ w = w' := by
  subst hv
  go_enter Try.func116, Try.ntmps116
  go_wp2
  go_ret
  exact ⟨rfl, rfl⟩

set_option maxRecDepth 100000 in
set_option maxHeartbeats 4000000 in
/-- **slices.IndexFunc**: the number stands at place k0 for the first time. -/
theorem indexF_as (g len cap b k0 : Nat) (zs : List Int) (who : Int) (w : World) (h : IsInts w (some ⟨g, 0, none⟩) len cap zs) (hc : w.cell? ⟨b, 0, none⟩ = some (.int .i64 who)) (hk : k0 < len) (h1 : ∀ p, p < k0 → zs[p]?.getD 0 ≠ who) (h2 : zs[k0]?.getD 0 = who) :
    Calls Try.prog 131 #[.slice (some ⟨g, 0, none⟩) len cap, isV b] w fun e w' => e = .returned (.int .i64 (k0 : Int)) ∧ w = w' := by
  obtain ⟨b', o', he, hbl, hcell⟩ := h.2.2.2 (by omega)
  injection he with he
  injection he with he1 he2 _
  subst he1
  subst he2
  simp only [Nat.zero_add] at hcell
  have HC := Lib.hid hcell
  have H1 := Lib.hid h1
  have H2 := Lib.hid h2
  have HV := Lib.hid hc
  have hlm := h.2.2.1
  clear h hcell h1 h2 hc
  unfold isV
  go_enter Try.func131, Try.ntmps131
  go_wp2
  go_loop [5, 8] (fun _ iv => ∃ k : Nat, k ≤ k0 ∧ iv = .int .i64 (k : Int)) (fun _ iv => len - (intOf iv).toNat)
  case atStart => exact ⟨0, Nat.zero_le _, rfl⟩
  case round =>
    obtain ⟨k, hk2, rfl⟩ := hrel
    have hkl : k < len := by omega
    have hz := HC.out k hkl
    obtain ⟨z, hzz⟩ : ∃ z, zs[k]?.getD 0 = z := ⟨_, rfl⟩
    rw [hzz] at hz
    by_cases hlt : k < k0
    · have hv : (z == who) = false := beq_eq_false_iff_ne.2 (by rw [← hzz]; exact H1.out k hlt)
      have HVV := Lib.hid hv
      clear hzz hv
      go_wp2_with (go_at_call 116; refine (isV_any b z who false _ HV.out HVV.out).mono ?_; rintro e w1 ⟨rfl, rfl⟩)
      go_round
      case rel => exact ⟨k + 1, by omega, by go_num⟩
      case measure => simp [intOf]; omega
    · obtain rfl : k = k0 := by omega
      have hv : (z == who) = true := by rw [← hzz, H2.out]; simp
      have HVV := Lib.hid hv
      clear hzz hv
      go_wp2_with (go_at_call 116; refine (isV_any b z who true _ HV.out HVV.out).mono ?_; rintro e w1 ⟨rfl, rfl⟩)
      go_ret
      exact ⟨rfl, rfl⟩

/-- The row behind j rounds: what stays moved up, the rest as it was. -/
def delX (zs : List Int) (k0 j : Nat) : List Int := (zs.eraseIdx k0).take (j - 1) ++ zs.drop (j - 1)
theorem erase_at {α : Type} (l : List α) (k i : Nat) : (l.eraseIdx k)[i]? = if i < k then l[i]? else l[i + 1]? := List.getElem?_eraseIdx
theorem delX_start {zs : List Int} {k0 : Nat} : delX zs k0 (k0 + 1) = zs := by
  unfold delX
  rw [Nat.add_sub_cancel]
  have e : (zs.eraseIdx k0).take k0 = zs.take k0 := by
    refine List.ext_getElem? (fun i => ?_)
    by_cases h : i < k0
    · rw [List.getElem?_take_of_lt h, List.getElem?_take_of_lt h, erase_at, if_pos h]
    · rw [List.getElem?_eq_none (by simp; omega), List.getElem?_eq_none (by simp; omega)]
  rw [e, List.take_append_drop]
theorem delX_at {zs : List Int} {k0 j p : Nat} (hk : k0 < zs.length) (hj : j ≤ zs.length) (h : j ≤ p + 1) : (delX zs k0 j)[p]? = zs[p]? := by
  unfold delX
  have hl : ((zs.eraseIdx k0).take (j - 1)).length = j - 1 := by rw [List.length_take, List.length_eraseIdx, if_pos hk]; omega
  rw [List.getElem?_append_right (by omega), hl, List.getElem?_drop]
  congr 1; omega
theorem delX_next {zs : List Int} {k0 j : Nat} (hk : k0 < j) (hj : j < zs.length) : delX zs k0 (j + 1) = (delX zs k0 j).set (j - 1) (zs[j]?.getD 0) := by
  have hl : ∀ q, q ≤ zs.length - 1 → ((zs.eraseIdx k0).take q).length = q := fun q hq => by rw [List.length_take, List.length_eraseIdx, if_pos (by omega)]; omega
  refine List.ext_getElem? (fun p => ?_)
  rw [List.getElem?_set]
  unfold delX
  have hlen : ((zs.eraseIdx k0).take (j - 1) ++ zs.drop (j - 1)).length = zs.length := by rw [List.length_append, hl _ (by omega), List.length_drop]; omega
  rw [Nat.add_sub_cancel]
  by_cases h1 : j - 1 = p
  · subst h1
    rw [if_pos rfl, if_pos (by rw [hlen]; omega), List.getElem?_append_left (by rw [hl j (by omega)]; omega), List.getElem?_take_of_lt (by omega), erase_at, if_neg (by omega), show j - 1 + 1 = j by omega]
    simp [hj]
  · rw [if_neg h1]
    by_cases h2 : p < j - 1
    · rw [List.getElem?_append_left (by rw [hl j (by omega)]; omega), List.getElem?_append_left (by rw [hl (j - 1) (by omega)]; omega), List.getElem?_take_of_lt (by omega), List.getElem?_take_of_lt h2]
    · rw [List.getElem?_append_right (by rw [hl j (by omega)]; omega), List.getElem?_append_right (by rw [hl (j - 1) (by omega)]; omega), hl j (by omega), hl (j - 1) (by omega), List.getElem?_drop, List.getElem?_drop]
      congr 1; omega
theorem delX_end {zs : List Int} {k0 : Nat} (hk : k0 < zs.length) (z : Int) : ((delX zs k0 zs.length).set (zs.length - 1) z).take (zs.length - 1) = zs.eraseIdx k0 := by
  have hl : (zs.eraseIdx k0).length = zs.length - 1 := by rw [List.length_eraseIdx, if_pos hk]
  rw [List.take_set_of_le (Nat.le_refl _)]
  unfold delX
  rw [List.take_append_of_le_length (by rw [List.length_take, hl]; omega), List.take_take, Nat.min_self, List.take_of_length_le (by omega)]
theorem delX_length {zs : List Int} {k0 j : Nat} (hk : k0 < zs.length) (hj : j ≤ zs.length) : (delX zs k0 j).length = zs.length := by
  unfold delX
  rw [List.length_append, List.length_take, List.length_eraseIdx, if_pos hk, List.length_drop]; omega
theorem zero_int : ∀ w, (zeroValue 3).run Try.prog w = .ok (.int .i64 0) w := by
  intro w
  simp [zeroValue, go_sem]
  rfl

set_option maxRecDepth 100000 in
set_option maxHeartbeats 8000000 in
/-- **slices.DeleteFunc**: the number stands at place k0 alone. -/
theorem deleteF_as (g len cap b k0 base : Nat) (zs : List Int) (who : Int) (w : World) (h : w.ownsRow base 3 1 (.slice (some ⟨g, 0, none⟩) len cap) len (zs.map (Value.int .i64))) (hl : len ≤ 1048600) (hc : w.cell? ⟨b, 0, none⟩ = some (.int .i64 who)) (hbg : b ≠ g) (hk : k0 < len) (h1 : ∀ p, p ≠ k0 → p < len → zs[p]?.getD 0 ≠ who) (h2 : zs[k0]?.getD 0 = who) :
    Calls Try.prog 115 #[.slice (some ⟨g, 0, none⟩) len cap, isV b] w fun e w' => e = .returned (.slice (some ⟨g, 0, none⟩) (len - 1) cap) ∧ w'.ownsRow base 3 1 (.slice (some ⟨g, 0, none⟩) (len - 1) cap) (len - 1) ((zs.eraseIdx k0).map (Value.int .i64)) ∧ w.grownBy w' (some g) ∧ w'.heap.size = w.heap.size := by
  have hzl : zs.length = len := by have := h.1; simpa using this
  have hcap : len ≤ cap := by
    rcases h.2 with ⟨e, _⟩ | ⟨_, c, _, e, _, _, hc, _⟩
    · cases e
    · injection e with _ _ e3; omega
  have HZ := Lib.hid hzl
  have HO := Lib.hid h
  have H1 := Lib.hid h1
  have H2 := Lib.hid h2
  have HV := Lib.hid hc
  have hne1 : ((k0 : Int) == -1) = false := beq_eq_false_iff_ne.2 (by omega)
  have O0 : Hid (w.ownsRow base 3 1 (.slice (some ⟨g, 0, none⟩) len cap) len ((delX zs k0 (k0 + 1)).map (Value.int .i64))) := by unfold Hid; rw [delX_start]; exact h
  clear h h1 h2 hc hzl
  unfold isV
  go_enter Try.func115, Try.ntmps115
  go_wp2_with (go_at_call 131; refine (indexF_as g len cap b k0 zs who _ (IsInts.of_owned HO.out hl) HV.out hk (fun p hp => H1.out p (by omega) (by omega)) H2.out).mono ?_; rintro e w1 ⟨rfl, rfl⟩)
  go_loopw [5, 6, 7] (fun iv jv _ wr => ∃ j : Nat, k0 < j ∧ j ≤ len ∧ iv = .int .i64 ((j - 1 : Nat) : Int) ∧ jv = .int .i64 (j : Int) ∧ Hid (wr.ownsRow base 3 1 (.slice (some ⟨g, 0, none⟩) len cap) len ((delX zs k0 j).map (Value.int .i64))) ∧ Hid (w.grownBy wr (some g)) ∧ wr.heap.size = w.heap.size) (fun _ jv _ _ => len - (intOf jv).toNat)
  case atStart => exact ⟨k0 + 1, by omega, by omega, by rw [Nat.add_sub_cancel], by go_num, O0, Lib.hid ⟨rfl, rfl, rfl, Nat.le_refl _, fun _ _ _ => rfl⟩, rfl⟩
  case round =>
    clear O0
    obtain ⟨j, hkj, hjl, rfl, rfl, hO, hG, hS⟩ := hrel
    obtain ⟨i, hi⟩ : ∃ i, j - 1 = i := ⟨_, rfl⟩
    rw [hi]
    by_cases hlt : j < len
    · have hz : wr.cell? ⟨g, j, none⟩ = some (.int .i64 (zs[j]?.getD 0)) := by
        rw [hO.out.cellAt j (by omega), List.getElem?_map, delX_at (by rw [HZ.out]; omega) (by rw [HZ.out]; omega) (by omega)]
        simp [show j < zs.length by rw [HZ.out]; exact hlt]
      obtain ⟨z, hzz⟩ : ∃ z, zs[j]?.getD 0 = z := ⟨_, rfl⟩
      rw [hzz] at hz
      have hv : (z == who) = false := beq_eq_false_iff_ne.2 (by rw [← hzz]; exact H1.out j (by omega) hlt)
      have HVV := Lib.hid hv
      have HNX : Hid (delX zs k0 (j + 1) = (delX zs k0 j).set i z) := by unfold Hid; rw [delX_next hkj (by rw [HZ.out]; exact hlt), hi, hzz]
      have hcb : wr.cell? ⟨b, 0, none⟩ = some (.int .i64 who) := by
        have hbl : b < w.heap.size := by
          have := HV.out
          unfold World.cell? at this
          by_cases q : b < w.heap.size
          · exact q
          · rw [Array.getElem?_eq_none (by show w.heap.size ≤ b; omega)] at this; cases this
        exact (World.cell?_of_block (a := ⟨b, 0, none⟩) (hG.out.block b hbl (by intro e; injection e with e; exact hbg e))).trans HV.out
      have ci : ∃ u, wr.cell? ⟨g, i, none⟩ = some u := by
        rw [hO.out.cellAt i (by omega)]
        exact ⟨_, List.getElem?_eq_getElem (by rw [List.length_map, delX_length (by rw [HZ.out]; omega) (by rw [HZ.out]; omega), HZ.out]; omega)⟩
      obtain ⟨u, ci⟩ := ci
      have fi : wr.frozen? ⟨g, i, none⟩ = false := hO.out.frozenAt i
      have hs := hO.out.stored i (.int .i64 z)
      rw [map_set_int, ← HNX.out] at hs
      have O9 := Lib.hid hs.1
      have G9 : Hid (w.grownBy (wr.setCell ⟨g, i, none⟩ (.int .i64 z)) (some g)) :=
        ⟨hs.2.os.trans hG.out.os, hs.2.tape.trans hG.out.tape, hs.2.output.trans hG.out.output, Nat.le_trans hG.out.size hs.2.size, fun k hk hne => (hs.2.block k (Nat.lt_of_lt_of_le hk hG.out.size) hne).trans (hG.out.block k hk hne)⟩
      have S9 : (wr.setCell ⟨g, i, none⟩ (.int .i64 z)).heap.size = w.heap.size := by simp [World.setCell]; exact hS
      have HI := Lib.hid hi
      have hil : i < len := by omega
      have hil2 : (i : Int) < (len : Int) := by omega
      clear hzz hv hs hO hG hi
      go_wp2_with (go_at_call 116; refine (isV_any b z who false _ hcb HVV.out).mono ?_; rintro e w1 ⟨rfl, rfl⟩)
      go_roundw
      case rel => exact ⟨j + 1, by omega, by omega, by rw [Nat.add_sub_cancel]; have := HI.out; congr 1; omega, by go_num, O9, G9, S9⟩
      case measure => simp [intOf]; omega
    · obtain rfl : j = len := by omega
      have hil : i < j := by omega
      have hji : j - i = 1 := by omega
      have hci : ¬ cap = i := by omega
      have hic : i ≤ cap := by omega
      have hcl : ∀ ty, (Builtin.clear_ #[24] ty #[.slice (some ⟨g, i, none⟩) (j - i) (cap - i)]).run Try.prog wr = .ok (.tuple #[]) (wr.setCells g i (List.replicate (j - i) (.int .i64 0))) :=
        fun ty => Lib.run_clear_slice wr 24 3 ty (.int .i64 0) Try.underlying24 zero_int rfl rfl g i (j - i) (cap - i) (by omega) (fun t ht => by
          rw [hO.out.cellAt (i + t) (by omega), List.getElem?_eq_getElem (by rw [List.length_map, delX_length (by rw [HZ.out]; omega) (by rw [HZ.out]; omega), HZ.out]; omega)]; rfl) (fun t _ => hO.out.frozenAt _)
      rw [hji] at hcl
      have hcl : ∀ ty, (Builtin.clear_ #[24] ty #[.slice (some ⟨g, i, none⟩) 1 (cap - i)]).run Try.prog wr = .ok (.tuple #[]) (wr.setCell ⟨g, i, none⟩ (.int .i64 0)) := hcl
      have hs := hO.out.stored i (.int .i64 0)
      rw [map_set_int] at hs
      have hE := delX_end (zs := zs) (k0 := k0) (by rw [HZ.out]; omega) 0
      rw [HZ.out, hi] at hE
      have O9 := owns_part hs.1 (k := i) (by omega)
      rw [← List.map_take, hE] at O9
      have HO9 := Lib.hid O9
      have G9 : Hid (w.grownBy (wr.setCell ⟨g, i, none⟩ (.int .i64 0)) (some g)) :=
        ⟨hs.2.os.trans hG.out.os, hs.2.tape.trans hG.out.tape, hs.2.output.trans hG.out.output, Nat.le_trans hG.out.size hs.2.size, fun k hk hne => (hs.2.block k (Nat.lt_of_lt_of_le hk hG.out.size) hne).trans (hG.out.block k hk hne)⟩
      have S9 : (wr.setCell ⟨g, i, none⟩ (.int .i64 0)).heap.size = w.heap.size := by simp [World.setCell]; exact hS
      have HI := Lib.hid hi
      have hil2 : (i : Int) ≤ (j : Int) := by omega
      clear hO hG hs hE O9 hi
      go_wp2
      go_ret
      rw [HI.out]
      exact ⟨rfl, HO9.out, G9.out, S9⟩

end Go.Proofs.Ytafnmongglhlaaa

namespace Go.Proofs.Ytafnmongglhlaaa
open Go.RowKit Go.Shelf

attribute [local go_sem] Oper.semAt_some

set_option maxRecDepth 100000 in
set_option maxHeartbeats 2000000 in
/-- **impl.BallotFirst**, at a valid ballot. -/
theorem implFirst_yes (a : Option Addr) (len cap : Nat) (zs : List Int) (a' : Option Addr) (len' cap' : Nat) (L : List Bool) (w : World) (h : IsInts w a len cap zs) (h' : IsBools w a' len' cap' L) (hv : validB zs (len' : Int) = true) :
    CallsIn Fence.wide 8 Try.prog 126 #[.slice a len cap, .slice a' len' cap'] w fun e w' => e = .returned (.int .i64 (firstL zs L)) ∧ Below w.heap.size w w' := by
  have hro : Fence.wide.round = none := rfl
  have HR := Lib.hid (validB_mem hv).2.2
  have hm := h'.2.2.1
  have H := Lib.hid h; clear h
  have H' := Lib.hid h'; clear h'
  refine callsIn_of_wp_marks Try.func126 rfl trivial ?_ hro
  simp only [Try.ntmps126, List.size_toArray, List.length_cons, List.length_nil, Nat.reduceAdd, Nat.reduceSub, Array.replicate_succ, Array.replicate_zero, List.push_toArray, List.append_toArray, List.nil_append, List.cons_append]
  gi_wp2
  refine ⟨trivial, ?_⟩
  gi_at_call 57
  refine (implValid_wide _ _ _ _ zs _ _ (H.out.below (((Below.refl _ w).alloc (Nat.le_refl _) _).alloc (by simp) _))).mono ?_
  rintro e w1 ⟨rfl, hb1⟩
  have hB1 : Below w.heap.size w w1 := (((Below.refl _ w).alloc (Nat.le_refl _) _).alloc (by simp) _).trans (hb1.mono (by simp; omega))
  have hsz : w.heap.size + 1 + 1 ≤ w1.heap.size := by have := hb1.size; simpa using this
  gi_wp2
  refine ⟨trivial, ?_⟩
  gi_at_call 95
  refine (candidates_in Fence.wide _ (by omega) trivial trivial hro _ _ _ _).mono ?_
  rintro e w' ⟨rfl, rfl⟩
  gi_wp2
  have bL0 := (Boxed.new w 113 (.slice a' len' cap')).alloc (.cells #[.int .i64 0] 3)
  have bR0 := Boxed.new (w.alloc (.cells #[.slice a' len' cap'] 113)) 3 (.int .i64 0)
  simp only [World.size_alloc] at bL0 bR0
  have bL : Boxed w1 w.heap.size 113 (.slice a' len' cap') := (hb1.block _ (by simp; omega)).trans bL0
  have bR : Boxed w1 (w.heap.size + 1) 3 (.int .i64 0) := (hb1.block _ (by simp)).trans bR0
  clear bL0 bR0
  have bV := Boxed.new w1 24 (.slice a len cap)
  have hB2 : Below w.heap.size w (w1.alloc (.cells #[.slice a len cap] 24)) := hB1.alloc (by omega) _
  refine wpIn_rangeFunc_ownG hro (by omega) (gf := 133) (lb := #[.pointer (some ⟨w1.heap.size, 0, none⟩)]) rfl trivial (enters_of Try.func133 (by kernel_rfl) rfl)
    (values_stops_g (fun z : { z : Int // 0 ≤ z ∧ z < (len' : Int) } => z.1) (zs.pmap Subtype.mk HR.out) Fence.wide 7 trivial hro (by omega) w1.heap.size a len cap zs (by simp [List.map_pmap]) w _ (by simp) hB2 bV.cell H.out) belowK_t (belowK_b (by simp; omega)) (Below.refl _ _) (fun _ => rfl)
    (fun pre W => (W.cell? ⟨w.heap.size, 0, none⟩ = some (.slice a' len' cap') ∧ (W.cell? ⟨w.heap.size + 1, 0, none⟩ = some (.int .i64 0) ∧ W.frozen? ⟨w.heap.size + 1, 0, none⟩ = false) ∧ ∀ z ∈ pre.map Subtype.val, L[z.toNat]?.getD false = true) ∧ Below w.heap.size w W)
    (fun c pre W => (c = .ret ∧ ∃ r, (∀ rest, firstL (pre.map Subtype.val ++ rest) L = r) ∧ W.cell? ⟨w.heap.size + 1, 0, none⟩ = some (.int .i64 r)) ∧ Below w.heap.size w W)
    (OwnFrom.and (Own.from (fun s A B row hs hg hr => ⟨cell_kept hs.1 hg hr, ⟨cell_kept hs.2.1.1 hg hr, (frozen_kept hs.2.1.1 hg hr).trans hs.2.1.2⟩, hs.2.2⟩) _) (ownFrom_below (Nat.le_refl _) (by simp; omega)))
    (fun c => OwnFrom.and (Own.from (fun s A B row hs hg hr => by obtain ⟨e1, r, e2, e3⟩ := hs; exact ⟨e1, r, e2, cell_kept e3 hg hr⟩) _) (ownFrom_below (Nat.le_refl _) (by simp; omega)))
    ⟨⟨(bL.alloc _).cell, ⟨(bR.alloc _).cell, (bR.alloc _).frozen⟩, by simp⟩, hB2⟩
    (fun z => { tmps := #[.slice a len cap, .slice a' len' cap', undef, .pointer (some ⟨w.heap.size, 0, none⟩), .pointer (some ⟨w.heap.size + 1, 0, none⟩), .int .i64 z.1,
      .slice a len cap, .slice a' len' cap', .int .i64 (len' : Int), .bool true, .bool false, .slice a len cap, .func (.func 133) #[] #[.pointer (some ⟨w1.heap.size, 0, none⟩)], .int .i64 z.1,
      undef, undef, undef, undef, undef, undef], defers := [] }) ?assign ?body ?done ?stop
  case assign =>
    intro l z W K hK
    gi_wp2
    exact hK
  case body =>
    rintro l pre ⟨z, hz0, hz1⟩ W ⟨⟨hcl, ⟨hcr, hfr⟩, hfree⟩, hB⟩ hlt
    have HF := Lib.hid hfree; clear hfree
    obtain ⟨c, rfl⟩ := Int.eq_ofNat_of_zero_le hz0
    have hc : c < len' := by omega
    obtain ⟨lb, lo, rfl, hlb, hlc⟩ := (H'.out.below hB).2.2.2 (by omega)
    have hcell := hlc c hc
    clear hlc
    cases hL : L[c]?.getD false
    · have HL := Lib.hid hL
      gi_wp2
      refine ⟨(KeepsOthers.setCell _ _ _).from _, ⟨rfl, (c : Int), fun rest => ?_, World.cell?_setCell_same' _ _ _ (by rw [hcr]; rfl)⟩, hB.setCell (p := ⟨w.heap.size + 1, 0, none⟩) (by simp) _⟩
      rw [List.map_append, List.append_assoc, firstL_app HF.out]
      show (if L[(c : Int).toNat]?.getD false = true then _ else _) = _
      rw [if_neg (by rw [Int.toNat_natCast, HL.out]; simp)]
    · have HL := Lib.hid hL
      gi_wp2
      refine ⟨KeepsFrom.refl _ _, Below.refl _ _, ⟨hcl, ⟨hcr, hfr⟩, fun u hu => ?_⟩, hB⟩
      rw [List.map_append] at hu
      refine (List.mem_append.1 hu).elim (HF.out u) (fun e => ?_)
      simp at e
      subst e
      rw [Int.toNat_natCast]; exact HL.out
  case done =>
    rintro D ys W hD rfl ⟨⟨hcl, ⟨hcr, hfr⟩, hfree⟩, hB⟩ hK
    have HF := Lib.hid hfree; clear hfree
    gi_wp2
    have hK' := (KeepsOthers.setCell W ⟨w.heap.size + 1, 0, none⟩ (.int .i64 (-1))).same D _ hK rfl
    refine ⟨by simp, .inl ⟨_, _, rfl, run_takeDeferred hK', ?_⟩⟩
    have hc5 := cell_kept (World.cell?_setCell_same' W ⟨w.heap.size + 1, 0, none⟩ (.int .i64 (-1)) (by rw [hcr]; rfl)) (grownBy_putObj' _ D (.deferred none)) (fun r e => by cases e; exact ⟨_, hK', rfl⟩)
    refine ⟨.int .i64 (-1), ?_, ret_int ?_, (hB.setCell (p := ⟨w.heap.size + 1, 0, none⟩) (by simp) _).trans (belowK_b (w := w) (Nat.le_refl _) _ D _ _ (by simp at hD; omega) hK' rfl rfl)⟩
    · simp [results, Try.f126, go_sem, hc5]
    · have := firstL_app HF.out []
      rw [List.append_nil, List.map_pmap] at this
      simp at this
      rw [this]; rfl
  case stop =>
    rintro D c pre W hD ⟨t, ht⟩ ⟨⟨rfl, r, hr, hcr⟩, hB⟩ hK
    have HQ : Hid (firstL zs L = r) := by
      have e : pre.map Subtype.val ++ t.map Subtype.val = zs := by rw [← List.map_append, ht]; simp [List.map_pmap]
      unfold Hid; rw [← e]; exact hr _
    clear hr ht
    gi_wp2
    refine ⟨by simp, .inl ⟨_, _, rfl, run_takeDeferred hK, ?_⟩⟩
    have hc5 := cell_kept hcr (grownBy_putObj' _ D (.deferred none)) (fun r e => by cases e; exact ⟨_, hK, rfl⟩)
    refine ⟨.int .i64 r, ?_, ret_int HQ.out.symm, hB.trans (belowK_b (w := w) (Nat.le_refl _) W D _ _ (by simp at hD; omega) hK rfl rfl)⟩
    simp [results, Try.f126, go_sem, hc5]

set_option maxRecDepth 100000 in
set_option maxHeartbeats 1000000 in
/-- **impl.BallotFirst** answers as the model does. -/
theorem implFirst_any (a : Option Addr) (len cap : Nat) (zs : List Int) (a' : Option Addr) (len' cap' : Nat) (L : List Bool) (w : World) (h : IsInts w a len cap zs) (h' : IsBools w a' len' cap' L) :
    Calls Try.prog 126 #[.slice a len cap, .slice a' len' cap'] w fun e w' => e = .returned (.int .i64 (firstB zs L)) ∧ Below w.heap.size w w' := by
  refine (callsIn_wide (n := 8)).1 ?_
  have hE : Hid (firstB zs L = if validB zs (len' : Int) = true then firstL zs L else -1) := by unfold Hid firstB; rw [h'.1]
  cases hv : validB zs (len' : Int)
  · have e : Hid (firstB zs L = -1) := by unfold Hid; rw [hE.out, hv]; rfl
    have hm := h'.2.2.1
    have H := Lib.hid h; clear h h' hE
    refine callsIn_of_wp Try.func126 rfl trivial ?_ rfl
    simp only [Try.ntmps126, List.size_toArray, List.length_cons, List.length_nil, Nat.reduceAdd, Nat.reduceSub, Array.replicate_succ, Array.replicate_zero, List.push_toArray, List.append_toArray, List.nil_append, List.cons_append]
    gi_wp2
    refine ⟨trivial, ?_⟩
    gi_at_call 57
    refine (implValid_wide _ _ _ _ zs _ _ (H.out.below (((Below.refl _ w).alloc (Nat.le_refl _) _).alloc (by simp) _))).mono ?_
    rintro e1 w1 ⟨rfl, hb1⟩
    have hB1 : Below w.heap.size w w1 := (((Below.refl _ w).alloc (Nat.le_refl _) _).alloc (by simp) _).trans (hb1.mono (by simp; omega))
    have bR0 := Boxed.new (w.alloc (.cells #[.slice a' len' cap'] 113)) 3 (.int .i64 0)
    simp only [World.size_alloc] at bR0
    have bR : Boxed w1 (w.heap.size + 1) 3 (.int .i64 0) := (hb1.block _ (by simp)).trans bR0
    have hcr := bR.cell
    have hfr := bR.frozen
    clear bR0 bR
    gi_wp2
    have hc5 := World.cell?_setCell_same' w1 ⟨w.heap.size + 1, 0, none⟩ (.int .i64 (-1)) (by rw [hcr]; rfl)
    exact bodyPost_ret (v := .int .i64 (-1)) (by simp [results, Try.f126, go_sem, hc5]) rfl ⟨ret_int e.out.symm, hB1.setCell (p := ⟨w.heap.size + 1, 0, none⟩) (by simp) _⟩
  · rw [hE.out, hv]
    exact implFirst_yes a len cap zs a' len' cap' L w h h' hv

end Go.Proofs.Ytafnmongglhlaaa

namespace Go.Proofs.Ytafnmongglhlaaa
open Go.RowKit

attribute [local go_sem] Oper.semAt_some

/-- What is drawn of a transfer. -/
def DrewT (w : World) (e : Ending) (w' : World) : Prop := ∃ (ps : List Pl) (g cap : Nat) (lots : List Int) (a : Option Addr) (c s : Nat), e = .returned (.tuple #[.slice (some ⟨g, 0, none⟩) ps.length cap, .slice a lots.length c, .int .i64 (s : Int)]) ∧
  HasP w w' ps g cap ∧ pilesB ps = true ∧ w'.ownsRow w.heap.size 3 1 (.slice a lots.length c) lots.length (lots.map (Value.int .i64)) ∧ lots.length ≤ 5 ∧ s ≤ 4 ∧ Below w.heap.size w w'
def DrewTR (R : Nat) (w : World) (e : Ending) (w' : World) : Prop := ∃ (ps : List Pl) (g cap : Nat) (lots : List Int) (a : Option Addr) (c s p' : Nat), e = .returned (.tuple #[.slice (some ⟨g, 0, none⟩) ps.length cap, .slice a lots.length c, .int .i64 (s : Int)]) ∧
  w'.ownsRow w.heap.size 49 2 (.slice (some ⟨g, 0, none⟩) ps.length cap) ps.length (cellsP ps) ∧ pilesB ps = true ∧ w'.ownsRow w.heap.size 3 1 (.slice a lots.length c) lots.length (lots.map (Value.int .i64)) ∧ lots.length ≤ 5 ∧ s ≤ 4 ∧ Rd w' R p' ∧ p' ≤ 5000 ∧ Step R w w'

theorem l3Tot_as (a : Option Addr) (len cap : Nat) (ps : List Pl) (T : Int) (w : World) (h : IsPiles w a len cap ps) (hm : ∀ i, 0 ≤ mAt ps i ∧ mAt ps i ≤ 1000000) (ht : sumL ps = T) :
    Calls Try.prog 74 #[.slice a len cap] w fun e w' => e = .returned (.int .i64 T) ∧ w = w' := by subst ht; exact l3Total_any a len cap ps w h hm

set_option maxRecDepth 100000 in
set_option maxHeartbeats 8000000 in
/-- **l93Transfer**. -/
theorem l93Transfer_any (R : Nat) (w : World) (h : Rd w R 0) :
    Calls Try.prog 44 #[.pointer (some ⟨R, 0, none⟩)] w (DrewTR R w) := by
  obtain ⟨G, hG⟩ : ∃ G, w.heap.size = G := ⟨_, rfl⟩
  have hRG : R < G := by rw [← hG]; exact h.1
  have H := Lib.hid h; clear h
  go_enter Try.func44, Try.ntmps44
  go_wp2_with fail
  refine (pick_any R 0 4 _ H.out (by omega) (by omega) (by omega)).mono ?_
  rintro e w1 ⟨d, rfl, hd, hr, hs⟩
  have R1 : Hid (Rd (w1.alloc (.cells #[] 49)) R 1) := hr.below ((Below.refl _ w1).alloc (Nat.le_refl _) _)
  have S1 : Hid (Step R w (w1.alloc (.cells #[] 49))) := hs.alloc _
  have hG1 : G ≤ w1.heap.size := by have := hs.size; omega
  have O1 := Lib.hid (empty_lit w1 49 G hG1)
  obtain ⟨N, hN⟩ : ∃ N : Nat, (2 : Int) + (d : Int) = (N : Int) ∧ 2 ≤ N ∧ N ≤ 5 := ⟨2 + d, by omega, by omega, by omega⟩
  have e1 := hN.1
  have hN1 := hN.2.1
  have hN5 := hN.2.2
  clear hN hr hs H
  go_wp2_with fail
  refine (pick_any R 1 9 _ R1.out (by omega) (by omega) (by omega)).mono ?_
  rintro e w2 ⟨m, rfl, hm, hr, hs⟩
  have R2 := Lib.hid hr
  have S2 := Lib.hid (S1.out.trans hs)
  have O2 := Lib.hid (owns_step O1.out hs hRG)
  clear hr hs R1 S1 O1
  obtain ⟨mn, hmn⟩ : ∃ mn : Nat, (m : Int) = (mn : Int) ∧ mn ≤ 8 := ⟨m, rfl, by omega⟩
  have hm8 := hmn.2
  rw [hmn.1]
  clear hmn
  go_wp2
  go_loopw [6, 8] (fun v i wr => ∃ k p' : Nat, k ≤ mn ∧ i = .int .i64 (k : Int) ∧ p' ≤ 2 + 40 * k ∧ Hid (Rd wr R p') ∧ Hid (Step R w wr) ∧
      (∃ (cur : List Pl) (g c : Nat), v = .slice (some ⟨g, 0, none⟩) cur.length c ∧ Hid (pilesB cur = true) ∧ Hid (wr.ownsRow G 49 2 (.slice (some ⟨g, 0, none⟩) cur.length c) cur.length (cellsP cur))))
    (fun _ i _ => mn - (intOf i).toNat)
  case atStart => exact ⟨0, 1 + 1, Nat.zero_le _, rfl, by omega, R2, S2, [], _, _, rfl, rfl, O2⟩
  case round =>
    clear R2 S2 O2
    obtain ⟨k, p', hk, rfl, hpp, HR, HS, cur, g, c, rfl, HV, HO⟩ := hrel
    have hl12 : cur.length ≤ 12 := (pilesB_pos HV.out).2.2.2.2
    have HSM := Lib.hid (small_valid HV.out)
    by_cases hlt : k < mn
    · go_wp2_with fail
      refine (l91Ballot_any R p' (N : Int) _ HR.out (by omega) (by omega) (by omega)).mono ?_
      rintro e w3 ⟨zs, az, cz, p3, rfl, hoz, hz10, hr, hp3, hs⟩
      have R3 := Lib.hid hr
      have S3 := Lib.hid (HS.out.trans hs)
      have O3 := Lib.hid (owns_step HO.out hs hRG)
      have I3 := Lib.hid (IsInts.of_owned hoz (by omega))
      obtain ⟨t, ht⟩ : ∃ t, txtB zs = t := ⟨_, rfl⟩
      have hts : t.size ≤ 1048600 := by rw [← ht]; have := txtB_short' zs; omega
      have HT := Lib.hid ht
      clear hr hs hoz ht
      go_wp2_with fail
      refine (specText_as' az zs.length cz zs t _ I3.out HT.out).mono ?_
      rintro e w4 ⟨rfl, hd⟩
      have R4 := Lib.hid (R3.out.below (hd.below _))
      have S4 := Lib.hid (S3.out.behind (hd.below _))
      have O4 := Lib.hid (owns_below O3.out (hd.below _))
      clear hd R3 S3 O3 I3
      go_wp2_with fail
      refine (pick_any R p3 8 _ R4.out (by omega) (by omega) (by omega)).mono ?_
      rintro e w5 ⟨r9, rfl, hr9, hr, hs⟩
      have R5 := Lib.hid hr
      have S5 := Lib.hid (S4.out.trans hs)
      have O5 := Lib.hid (owns_step O4.out hs hRG)
      clear hr hs R4 S4 O4
      have hw9 : IntKind.i64.wrap (1 + (r9 : Int)) = 1 + (r9 : Int) := IntWalk.i64_in _ (by omega)
      obtain ⟨nx, hnx⟩ : ∃ nx, addL cur t (1 + (r9 : Int)) = nx := ⟨_, rfl⟩
      obtain ⟨ok, hok⟩ : ∃ ok, addB cur t (1 + (r9 : Int)) = ok := ⟨_, rfl⟩
      have HNX := Lib.hid hnx
      have HOK := Lib.hid hok
      have HV5 : Hid (ok = true → pilesB nx = true) := fun hh => by rw [← hnx]; exact addL_valid (hok.trans hh)
      clear hnx hok
      go_wp2_with fail
      refine (specAdd_as g 0 cur.length c cur t (1 + (r9 : Int)) nx ok _ (IsPiles.of_owned O5.out (by omega)) (O5.out.lt g rfl).2 HSM.out hts HNX.out HOK.out).mono ?_
      rintro e w6 ⟨a6, c6, rfl, ho6, hb6, hn6⟩
      have hG5 : G ≤ w5.heap.size := by have := S5.out.size; omega
      have R6 := Lib.hid (R5.out.below hb6)
      have S6 := Lib.hid (S5.out.behind hb6)
      have O6 := Lib.hid (owns_below O5.out hb6)
      have N6 := Lib.hid (ho6.mono hG5)
      have HN6 := Lib.hid hn6
      clear ho6 hb6 hn6 R5 S5 O5
      cases ok
      · go_wp2
        go_roundw
        case rel => exact ⟨k + 1, _, by omega, by go_num, by omega, R6, S6, cur, g, c, rfl, HV, O6⟩
        case measure => simp [intOf]; omega
      · obtain ⟨g6, rfl⟩ := HN6.out rfl
        have hvn := HV5.out (by trivial)
        have hln := (pilesB_pos hvn).2.2.2.2
        have IP := Lib.hid (IsPiles.of_owned N6.out (by omega))
        have HMB : Hid (∀ i, 0 ≤ mAt nx i ∧ mAt nx i ≤ 1000000) := fun i => by have := mAt_valid hvn i; omega
        have hVN := Lib.hid hvn
        have hst := sum_bound HMB.out nx.length (Nat.le_refl _)
        rw [List.take_length] at hst
        obtain ⟨T, hT⟩ : ∃ T, sumL nx = T := ⟨_, rfl⟩
        have HTT := Lib.hid hT
        rw [hT] at hst
        clear hT hvn
        go_wp2_with fail
        refine (l3Tot_as _ _ _ nx T _ IP.out HMB.out HTT.out).mono ?_
        rintro e w7 ⟨rfl, rfl⟩
        go_wp2_with fail
        refine (pick_any R (p3 + 1) 30 _ R6.out (by omega) (by omega) (by omega)).mono ?_
        rintro e w8 ⟨q, rfl, hq, hr, hs⟩
        have R8 := Lib.hid hr
        have S8 := Lib.hid (S6.out.trans hs)
        have O8 := Lib.hid (owns_step O6.out hs hRG)
        have N8 := Lib.hid (owns_step N6.out hs hRG)
        clear hr hs R6 S6 O6 N6 IP
        obtain ⟨z, hz⟩ : ∃ z : Nat, (q : Int).tdiv 29 = (z : Int) ∧ z ≤ 1 := ⟨q / 29, by rw [Int.tdiv_eq_ediv_of_nonneg (by omega)]; push_cast; rfl, by omega⟩
        have hz1 := hz.1
        have hz2 := hz.2
        have hz3 : (q : Int) / 29 = (z : Int) := by rw [← hz1, Int.tdiv_eq_ediv_of_nonneg (by omega)]
        have hw10 : IntKind.i64.wrap (60 + (z : Int)) = 60 + (z : Int) := IntWalk.i64_in _ (by omega)
        clear hz
        by_cases hle : T ≤ 60 + (z : Int)
        · have hdd : decide (T ≤ 60 + (z : Int)) = true := decide_eq_true hle
          clear hle
          go_wp2
          go_roundw
          case rel => exact ⟨k + 1, _, by omega, by go_num, by omega, R8, S8, nx, g6, c6, rfl, hVN.out, N8⟩
          case measure => simp [intOf]; omega
        · have hdd : decide (T ≤ 60 + (z : Int)) = false := decide_eq_false hle
          clear hle
          go_wp2
          go_roundw
          case rel => exact ⟨k + 1, _, by omega, by go_num, by omega, R8, S8, cur, g, c, rfl, HV, O8⟩
          case measure => simp [intOf]; omega
    · obtain rfl : k = mn := by omega
      have hGr : G ≤ wr.heap.size := by have := HS.out.size; omega
      go_wp2_with fail
      refine (l91Lots_any R p' (N : Int) _ HR.out (by omega)).mono ?_
      rintro e w5 ⟨lots, a5, c5, p5, rfl, hol, hl5, hr5, hp5, hs5⟩
      have R5 := Lib.hid hr5
      have S5 := Lib.hid (HS.out.trans hs5)
      have O5 := Lib.hid (owns_step HO.out hs5 hRG)
      have L5 := Lib.hid (World.ownsRow.mono hol hGr)
      clear hol hr5 hs5 HR HS HO
      go_wp2_with fail
      refine (pick_any R p5 20 _ R5.out (by omega) (by omega) (by omega)).mono ?_
      rintro e w6 ⟨d4, rfl, hd4, hr, hs⟩
      have R6 := Lib.hid hr
      have S6 := Lib.hid (S5.out.trans hs)
      have O6 := Lib.hid (owns_step O5.out hs hRG)
      have L6 := Lib.hid (owns_step L5.out hs hRG)
      clear hr hs R5 S5 O5 L5
      cases h4 : ((d4 : Int) == 0)
      · go_wp2_with fail
        refine (pick_any R (p5 + 1) 2 _ R6.out (by omega) (by omega) (by omega)).mono ?_
        rintro e w7 ⟨s, rfl, hs2, hr, hs⟩
        have S7 := Lib.hid (S6.out.trans hs)
        have O7 := Lib.hid (owns_step O6.out hs hRG)
        have L7 := Lib.hid (owns_step L6.out hs hRG)
        have R7 := Lib.hid hr
        clear hr hs R6 S6 O6 L6
        go_wp2
        refine bodyPost_ret (v := .tuple #[.slice (some ⟨g, 0, none⟩) cur.length c, .slice a5 lots.length c5, .int .i64 (1 + (s : Int))]) (by simp [results, Try.results44, go_sem]) rfl ?_
        exact ⟨cur, g, c, lots, a5, c5, 1 + s, _, by rw [Int.natCast_add]; rfl, by rw [hG]; exact O7.out, HV.out, by rw [hG]; exact L7.out, hl5, by omega, R7.out, by omega, S7.out⟩
      · go_wp2_with fail
        refine (pick_any R (p5 + 1) 5 _ R6.out (by omega) (by omega) (by omega)).mono ?_
        rintro e w7 ⟨s, rfl, hs2, hr, hs⟩
        have S7 := Lib.hid (S6.out.trans hs)
        have O7 := Lib.hid (owns_step O6.out hs hRG)
        have L7 := Lib.hid (owns_step L6.out hs hRG)
        have R7 := Lib.hid hr
        clear hr hs R6 S6 O6 L6
        go_wp2
        refine bodyPost_ret (v := .tuple #[.slice (some ⟨g, 0, none⟩) cur.length c, .slice a5 lots.length c5, .int .i64 (s : Int)]) (by simp [results, Try.results44, go_sem]) rfl ?_
        exact ⟨cur, g, c, lots, a5, c5, s, _, rfl, by rw [hG]; exact O7.out, HV.out, by rw [hG]; exact L7.out, hl5, by omega, R7.out, by omega, S7.out⟩

set_option maxHeartbeats 2000000 in
/-- **DrawTransferSteps**. -/
theorem drawTfSteps_any (a : Option Addr) (len cap : Nat) (bs : List Int) (w : World) (h : IsBytes w a len bs) (hcap : len ≤ cap) (hl : len ≤ 1048600) :
    Calls Try.prog 13 #[.slice a len cap] w (DrewT w) := by
  have H := Lib.hid h; clear h
  go_enter Try.func13, Try.ntmps13
  go_wp2_with fail
  refine (open_any a len cap bs _ H.out hcap hl).mono ?_
  rintro e w1 ⟨rfl, hr, hb⟩
  have hw1 := hr.1
  go_wp2_with fail
  refine (l93Transfer_any w.heap.size _ hr).mono ?_
  rintro e w2 ⟨ps, g, c, lots, a2, c2, s, p2, rfl, ho, hv, hol, hl5, hs4, hr2, hp2, hs⟩
  have HO := Lib.hid (ho.mono hb.size)
  have HL := Lib.hid (hol.mono hb.size)
  have HB := Lib.hid (hb.trans (hs.below (Nat.le_refl _) (Nat.le_of_lt hw1)))
  have HV := Lib.hid hv
  clear ho hol hb hs hv hr hr2
  go_wp2
  refine bodyPost_ret (v := .tuple #[.slice (some ⟨g, 0, none⟩) ps.length c, .slice a2 lots.length c2, .int .i64 (s : Int)]) (by simp [results, Try.results13, go_sem]) rfl ?_
  exact ⟨ps, g, c, lots, a2, c2, s, rfl, ⟨HO.out, small_valid HV.out, few_valid HV.out, by have := (pilesB_pos HV.out).2.2.2.2; omega⟩, HV.out, HL.out, hl5, hs4, HB.out⟩

set_option maxHeartbeats 2000000 in
/-- **DrawTransferWinners**. -/
theorem drawTfWins_any (a : Option Addr) (len cap : Nat) (bs : List Int) (w : World) (h : IsBytes w a len bs) (hcap : len ≤ cap) (hl : len ≤ 1048600) :
    Calls Try.prog 24 #[.slice a len cap] w (DrewT w) := by
  have H := Lib.hid h; clear h
  go_enter Try.func24, Try.ntmps24
  go_wp2_with fail
  refine (open_any a len cap bs _ H.out hcap hl).mono ?_
  rintro e w1 ⟨rfl, hr, hb⟩
  have hw1 := hr.1
  go_wp2_with fail
  refine (l93Transfer_any w.heap.size _ hr).mono ?_
  rintro e w2 ⟨ps, g, c, lots, a2, c2, s, p2, rfl, ho, hv, hol, hl5, hs4, hr2, hp2, hs⟩
  have HO := Lib.hid (ho.mono hb.size)
  have HL := Lib.hid (hol.mono hb.size)
  have HB := Lib.hid (hb.trans (hs.below (Nat.le_refl _) (Nat.le_of_lt hw1)))
  have HV := Lib.hid hv
  clear ho hol hb hs hv hr hr2
  go_wp2
  refine bodyPost_ret (v := .tuple #[.slice (some ⟨g, 0, none⟩) ps.length c, .slice a2 lots.length c2, .int .i64 (s : Int)]) (by simp [results, Try.results24, go_sem]) rfl ?_
  exact ⟨ps, g, c, lots, a2, c2, s, rfl, ⟨HO.out, small_valid HV.out, few_valid HV.out, by have := (pilesB_pos HV.out).2.2.2.2; omega⟩, HV.out, HL.out, hl5, hs4, HB.out⟩

end Go.Proofs.Ytafnmongglhlaaa
