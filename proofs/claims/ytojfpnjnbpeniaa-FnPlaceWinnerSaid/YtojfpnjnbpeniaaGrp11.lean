/-
  spec.l3Total, spec.PilesTotal, impl.PilesTotal: for lists of piles with texts of at most 1048600 bytes.
  Whether piles fit n candidates: impl.pilesFit, for every list of piles (at most 1048600, with texts of at most 1048600 bytes) and every number; it does not write into memory that was there.
  impl.pointCounts, and DepthCounts, PlaceCounts and LastCounts of impl: for every list of piles (at most 1048600, with texts of at most 1048600 bytes) and every number.
  impl.LotsValid, impl.LotsFirst, impl.seedValid and impl.LotsSeal: what they answer at every list of at most 1048600 ints, every list of bools and every number; they write into no memory that was there.
-/
import Derived.Test.YtojfpnjnbpeniaaGrp10
import Derived.Test.YtojfpnjnbpeniaaGrp8
import Derived.Test.YtojfpnjnbpeniaaGrp6
import Derived.Test.YtojfpnjnbpeniaaGrp9
import Derived.Test.YtojfpnjnbpeniaaGrp1
namespace Go.Proofs.Ytojfpnjnbpeniaa
open Go.RowKit

theorem sumL_app (a b : List Pl) : sumL (a ++ b) = sumL a + sumL b := by
  induction a with
  | nil => simp [sumL]
  | cons p a ih => rw [List.cons_append, sumL_cons, sumL_cons, ih]; omega
theorem sum_take {ps : List Pl} {k : Nat} (h : k < ps.length) : sumL (ps.take (k + 1)) = sumL (ps.take k) + mAt ps k := by
  rw [take_one h, sumL_app]; simp [sumL]
theorem sum_bound {ps : List Pl} (h : ∀ i, 0 ≤ mAt ps i ∧ mAt ps i ≤ 1000000) (k : Nat) (hk : k ≤ ps.length) : 0 ≤ sumL (ps.take k) ∧ sumL (ps.take k) ≤ 1000000 * (k : Int) := by
  induction k with
  | zero => simp [sumL]
  | succ k ih =>
    have := ih (by omega)
    rw [sum_take (by omega)]
    have := h k
    omega
theorem implPiles_as (a : Option Addr) (len cap : Nat) (ps : List Pl) (v : Bool) (w : World) (h : IsPiles w a len cap ps) (hs : Small ps) (hv : pilesB ps = v) :
    Calls Try.prog 58 #[.slice a len cap] w fun e w' => e = .returned (.bool v) ∧ Below w.heap.size w w' := by subst hv; exact implPiles_any a len cap ps w h hs

set_option maxRecDepth 100000 in
set_option maxHeartbeats 2000000 in
/-- **spec.l3Total**. -/
theorem l3Total_any (a : Option Addr) (len cap : Nat) (ps : List Pl) (w : World) (h : IsPiles w a len cap ps) (hm : ∀ i, 0 ≤ mAt ps i ∧ mAt ps i ≤ 1000000) :
    Calls Try.prog 65 #[.slice a len cap] w fun e w' => e = .returned (.int .i64 (sumL ps)) ∧ w = w' := by
  have HI := Lib.hid h
  have H1 := Lib.hid h.1
  have HM := Lib.hid hm
  have hmax := h.2.2.1
  clear h hm
  go_enter Try.func65, Try.ntmps65
  go_wp2
  go_loop [3, 4] (fun n i => ∃ k : Nat, k ≤ len ∧ i = .int .i64 k ∧ n = .int .i64 (sumL (ps.take k))) (fun _ i => len - (intOf i).toNat)
  case atStart => exact ⟨0, Nat.zero_le _, rfl, rfl⟩
  case round =>
    obtain ⟨k, hk, rfl, rfl⟩ := hrel
    obtain ⟨s, hs⟩ : ∃ s, sumL (ps.take k) = s := ⟨_, rfl⟩
    have hb := sum_bound HM.out k (by rw [H1.out]; exact hk)
    by_cases hlt : k < len
    · obtain ⟨b, off, rfl, _, _, c1⟩ := HI.out.piles hlt
      obtain ⟨m, hm⟩ : ∃ m, mAt ps k = m := ⟨_, rfl⟩
      have hst := sum_take (ps := ps) (k := k) (by rw [H1.out]; exact hlt)
      have hmb := HM.out k
      rw [hm] at c1 hmb hst
      rw [hs] at hb hst ⊢
      have HST := Lib.hid hst
      clear hst hm hs
      have hw1 : IntKind.i64.wrap (s + m) = s + m := IntWalk.i64_in _ (by omega)
      go_wp2
      refine ⟨⟨k + 1, by omega, by go_num, by rw [HST.out]⟩, ?_⟩
      simp [intOf]; omega
    · obtain rfl : k = len := by omega
      have hall : sumL (ps.take k) = sumL ps := by rw [List.take_of_length_le (by rw [H1.out]; omega)]
      rw [hall]
      clear hall hs hb
      go_wp2
      go_ret
      exact ⟨rfl, rfl⟩

set_option maxRecDepth 100000 in
set_option maxHeartbeats 2000000 in
/-- **impl.PilesTotal**. -/
theorem implTotal_as (a : Option Addr) (len cap : Nat) (ps : List Pl) (n : Int) (w : World) (h : IsPiles w a len cap ps) (hs : Small ps) (hn : totalL ps = n) :
    Calls Try.prog 20 #[.slice a len cap] w fun e w' => e = .returned (.int .i64 n) ∧ Below w.heap.size w w' := by
  have HI := Lib.hid h
  have HS := Lib.hid hs
  have HN := Lib.hid hn
  have H1 := Lib.hid h.1
  clear h hs hn
  obtain ⟨G, hG⟩ : ∃ G, w.heap.size = G := ⟨_, rfl⟩
  cases hv : pilesB ps
  · have e : Hid (n = -1) := by rw [Hid, ← HN.out, totalL, hv]; rfl
    have HV := Lib.hid hv; clear hv
    go_enter Try.func20, Try.ntmps20
    go_wp2_with fail
    refine (implPiles_as _ len cap ps false _ HI.out HS.out HV.out).mono ?_
    rintro e1 w1 ⟨rfl, hb1⟩
    go_wp2
    go_ret
    exact ⟨ret_int e.out.symm, hb1⟩
  · have e : Hid (sumL ps = n) := by rw [Hid, ← HN.out, totalL, hv]; rfl
    have HM := Lib.hid (mAt_wide (mAt_valid hv))
    have hl12 : len ≤ 12 := by have := (pilesB_pos hv).2.2.2.2; rw [H1.out] at this; exact this
    have HV := Lib.hid hv; clear hv
    go_enter Try.func20, Try.ntmps20
    go_wp2_with fail
    refine (implPiles_as _ len cap ps true _ HI.out HS.out HV.out).mono ?_
    rintro e1 w1 ⟨rfl, hb1⟩
    have B1 := Lib.hid (hG ▸ hb1); clear hb1
    go_wp2
    go_loopw [3, 11] (fun s i wr => ∃ k : Nat, k ≤ len ∧ i = .int .i64 k ∧ s = .int .i64 (sumL (ps.take k)) ∧ Below G w wr) (fun _ i _ => len - (intOf i).toNat)
    case atStart => exact ⟨0, Nat.zero_le _, rfl, rfl, B1.out⟩
    case round =>
      obtain ⟨k, hk, rfl, rfl, hB⟩ := hrel
      obtain ⟨s, hs⟩ : ∃ s, sumL (ps.take k) = s := ⟨_, rfl⟩
      have hb := sum_bound HM.out k (by rw [H1.out]; exact hk)
      have hBw : Below w.heap.size w wr := hG.symm ▸ hB
      by_cases hlt : k < len
      · obtain ⟨b, off, rfl, hb', c0, c1⟩ := (HI.out.below hBw).piles hlt
        obtain ⟨m, hm⟩ : ∃ m, mAt ps k = m := ⟨_, rfl⟩
        have hst := sum_take (ps := ps) (k := k) (by rw [H1.out]; exact hlt)
        have hmb := HM.out k
        rw [hm] at c1 hmb hst
        rw [hs] at hb hst ⊢
        have HST := Lib.hid hst
        clear hst hm hs
        have hw1 : IntKind.i64.wrap (s + m) = s + m := IntWalk.i64_in _ (by omega)
        go_wp2
        go_roundw
        case rel => exact ⟨k + 1, by omega, by go_num, by rw [HST.out], hB.alloc (hG ▸ hBw.size) _⟩
        case measure => simp [intOf]; omega
      · obtain rfl : k = len := by omega
        have hall : sumL (ps.take k) = n := by rw [List.take_of_length_le (by rw [H1.out]; omega)]; exact e.out
        rw [hall]
        clear hall hs hb
        go_wp2
        go_ret
        exact ⟨rfl, hBw⟩

end Go.Proofs.Ytojfpnjnbpeniaa

namespace Go.Proofs.Ytojfpnjnbpeniaa
open Go.RowKit

attribute [local go_sem] Oper.semAt_some

theorem fits_out {ps : List Pl} {n : Int} (h : n < 1 ∨ 5 < n) : fitsB ps n = false := by
  have e : inB n 1 5 = false := by unfold inB; exact decide_eq_false (by omega)
  unfold fitsB; rw [e]; simp

set_option maxRecDepth 100000 in
set_option maxHeartbeats 2000000 in
/-- **impl.pilesFit**. -/
theorem implFits_as (a : Option Addr) (len cap : Nat) (ps : List Pl) (n : Int) (v : Bool) (w : World) (h : IsPiles w a len cap ps) (hs : Small ps) (hv : fitsB ps n = v) :
    Calls Try.prog 56 #[.slice a len cap, .int .i64 n] w fun e w' => e = .returned (.bool v) ∧ Below w.heap.size w w' := by
  have HI := Lib.hid h
  have HS := Lib.hid hs
  have HV := Lib.hid hv
  have H1 := Lib.hid h.1
  clear h hs hv
  obtain ⟨G, hG⟩ : ∃ G, w.heap.size = G := ⟨_, rfl⟩
  by_cases h1 : n < 1
  · have HE : Hid (fitsB ps n = false) := fits_out (by omega)
    have hd : decide (n < 1) = true := decide_eq_true h1
    go_enter Try.func56, Try.ntmps56
    go_wp2
    go_ret
    exact ⟨ret_bool (by rw [← HV.out, HE.out]), Below.refl _ _⟩
  by_cases h5 : 5 < n
  · have HE : Hid (fitsB ps n = false) := fits_out (by omega)
    have hd : decide (n < 1) = false := decide_eq_false h1
    have hd5 : decide (5 < n) = true := decide_eq_true h5
    go_enter Try.func56, Try.ntmps56
    go_wp2
    go_ret
    exact ⟨ret_bool (by rw [← HV.out, HE.out]), Below.refl _ _⟩
  have hd : decide (n < 1) = false := decide_eq_false h1
  have hd5 : decide (5 < n) = false := decide_eq_false h5
  have HIN : Hid (inB n 1 5 = true) := by unfold Hid inB; simp; omega
  cases hp : pilesB ps
  · have HE : Hid (fitsB ps n = false) := by unfold Hid fitsB; rw [hp]; rfl
    have HP := Lib.hid hp; clear hp
    go_enter Try.func56, Try.ntmps56
    go_wp2_with fail
    refine (implPiles_as _ _ _ ps false _ HI.out HS.out HP.out).mono ?_
    rintro e w3 ⟨rfl, hb3⟩
    go_wp2
    go_ret
    exact ⟨ret_bool (by rw [← HV.out, HE.out]), hb3⟩
  · have hl12 : len ≤ 12 := by have := (pilesB_pos hp).2.2.2.2; rw [H1.out] at this; exact this
    have HP := Lib.hid hp; clear hp
    go_enter Try.func56, Try.ntmps56
    go_wp2_with fail
    refine (implPiles_as _ _ _ ps true _ HI.out HS.out HP.out).mono ?_
    rintro e w3 ⟨rfl, hb3⟩
    have B3 := Lib.hid (hG ▸ hb3); clear hb3
    go_wp2
    go_loopw [6, 7, 8, 22] (fun _ _ _ i wr => ∃ k : Nat, k ≤ len ∧ i = .int .i64 k ∧ Hid (∀ j, j < k → validB (parseL (tAt ps j)) n = true) ∧ Below G w wr) (fun _ _ _ i _ => len - (intOf i).toNat)
    case atStart => exact ⟨0, Nat.zero_le _, rfl, fun j hj => by omega, B3.out⟩
    case round =>
      obtain ⟨k, hk, rfl, hA, hB⟩ := hrel
      have hBw : Below w.heap.size w wr := hG.symm ▸ hB
      by_cases hlt : k < len
      · obtain ⟨b, off, rfl, hb, c0, c1⟩ := (HI.out.below hBw).at_text hlt
        obtain ⟨t, ht⟩ : ∃ t, tAt ps k = t := ⟨_, rfl⟩
        obtain ⟨m, hm⟩ : ∃ m, mAt ps k = m := ⟨_, rfl⟩
        obtain ⟨pl, hpl⟩ : ∃ pl, parseL t = pl := ⟨_, rfl⟩
        obtain ⟨u, hu⟩ : ∃ u, validB pl n = u := ⟨_, rfl⟩
        have hst : t.size ≤ 1048600 := by rw [← ht]; exact HS.out k
        have hl5 : pl.length ≤ 5 := by rw [← hpl]; exact parseL_short t
        have HOK : Hid (validB (nums t) 5 = true) := by
          have := (pilesB_pos HP.out).2.2.2.1 _ (pile_mem (ps := ps) (k := k) (by rw [H1.out]; exact hlt))
          unfold Hid; rw [← ht]; exact this
        rw [ht] at c0
        rw [hm] at c1
        have HT := Lib.hid ht
        have HPL := Lib.hid hpl
        have HU := Lib.hid hu
        have hGs : G ≤ wr.heap.size := by have := hB.size; rw [hG] at this; exact this
        clear ht hpl hu hBw hm
        go_wp2_with fail
        refine (implParse_as t pl true _ hst HPL.out HOK.out).mono ?_
        rintro e w4 ⟨a4, c4, rfl, ho4, hb4⟩
        have I4 := Lib.hid (IsInts.of_owned ho4 (by omega))
        have B4 : Hid (Below G w w4) := by
          refine hB.trans (Below.mono (?_ : Below wr.heap.size wr w4) hGs)
          first | exact ((Below.refl _ _).alloc (Nat.le_refl _) _).trans (hb4.mono (by simp)) | trace_state
        clear ho4 hb4
        go_wp2_with fail
        refine (implValid_any _ _ _ pl n _ I4.out).mono ?_
        rintro e w5 ⟨he, hb5⟩
        rw [HU.out] at he
        subst he
        have B5 := Lib.hid (B4.out.trans (hb5.mono (by have := B4.out.size; rw [hG] at this; exact this)))
        clear hb5
        have HN : Hid (validB (parseL (tAt ps k)) n = u) := by unfold Hid; rw [HT.out, HPL.out, HU.out]
        cases u
        · go_wp2
          go_ret
          exact ⟨ret_bool (by rw [← HV.out]; exact (fits_no (by rw [H1.out]; exact hlt) HN.out).symm), hG.symm ▸ B5.out⟩
        · go_wp2
          go_roundw
          case rel =>
            refine ⟨k + 1, by omega, by go_num, fun j hj => ?_, B5.out⟩
            by_cases e : j = k
            · subst e; exact HN.out
            · exact hA.out j (by omega)
          case measure => simp [intOf]; omega
      · obtain rfl : k = len := by omega
        have HE : Hid (fitsB ps n = (pilesB ps && inB n 1 5)) := fits_all (fun i hi => hA.out i (by rw [← H1.out]; exact hi))
        go_wp2
        go_ret
        exact ⟨ret_bool (by rw [← HV.out, HE.out, HP.out, HIN.out]; rfl), hG.symm ▸ hB⟩

end Go.Proofs.Ytojfpnjnbpeniaa

namespace Go.Proofs.Ytojfpnjnbpeniaa
open Go.RowKit

attribute [local go_sem] Oper.semAt_some

/-- A function value that tells what an index is worth. -/
def WayFn (n : Nat) (P : Nat → Int) (w : World) (u : Value) : Prop := ∃ k cap, u = .func (.func k) #[] cap ∧ (∀ (args : Array Value) (w' : World), (callFunc k args).run Try.prog w' = .ok (.enter k args) w') ∧ ∀ w', Below w.heap.size w w' → ∀ i : Nat, i < n → Calls Try.prog k (#[] ++ #[.int .i64 (i : Int), .int .i64 (n : Int)] ++ cap) w' fun e w'' => e = .returned (.int .i64 (P i)) ∧ w' = w''
theorem oneI_dep (d i : Nat) : oneI (decide (i < d)) = depP d i := by unfold oneI depP; by_cases h : i < d <;> simp [h]
theorem oneI_las (n i : Nat) : oneI (decide (i = n - 1)) = lasP n i := by unfold oneI lasP; by_cases h : i = n - 1 <;> simp [h]
theorem wayFn_depth {n d g : Nat} {w : World} (hc : w.cell? ⟨g, 0, none⟩ = some (.int .i64 (d : Int))) (hg : g < w.heap.size) : WayFn n (depP d) w (wayD g) :=
  ⟨_, _, rfl, Go.Proofs.enters_of Try.func113 (by kernel_rfl) rfl, fun w' hb i hi => (wayDepth_any g d i n w' ((hb.cell (p := ⟨g, 0, none⟩) hg).trans hc)).mono (by rintro e w2 ⟨rfl, rfl⟩; exact ⟨by rw [oneI_dep], rfl⟩)⟩
theorem wayFn_place {n : Nat} {w : World} (hn : n ≤ 5) : WayFn n (plaP n) w (.func (.func 110) #[] #[]) :=
  ⟨_, _, rfl, Go.Proofs.enters_of Try.func110 (by kernel_rfl) rfl, fun w' _ i hi => wayPlace_any i n w' hi hn⟩
theorem wayFn_last {n : Nat} {w : World} (hn : n ≤ 5) : WayFn n (lasP n) w (.func (.func 111) #[] #[]) :=
  ⟨_, _, rfl, Go.Proofs.enters_of Try.func111 (by kernel_rfl) rfl, fun w' _ i hi => (wayLast_any i n w' hi hn).mono (by rintro e w2 ⟨rfl, rfl⟩; exact ⟨by rw [oneI_las], rfl⟩)⟩
/-- The table's way of a number. -/
theorem way_at {n number : Nat} {G : Nat → Nat} {w : World} (hn : n ≤ 5) (hk : number ≤ 7) (hG : ∀ j, j < 6 → w.cell? ⟨G j, 0, none⟩ = some (.int .i64 (j : Int)) ∧ G j < w.heap.size) :
    ∃ u, #[wayD (G 0), wayD (G 1), wayD (G 2), wayD (G 3), wayD (G 4), wayD (G 5), .func (.func 110) #[] #[], .func (.func 111) #[] #[]][number]? = some u ∧ WayFn n (wayP n number) w u := by
  have hd : ∀ j, j < 6 → WayFn n (wayP n j) w (wayD (G j)) := fun j hj => by
    have := wayFn_depth (n := n) (hG j hj).1 (hG j hj).2
    have e : wayP n j = depP j := by funext i; unfold wayP; rw [if_pos hj]
    rw [e]; exact this
  have : number = 0 ∨ number = 1 ∨ number = 2 ∨ number = 3 ∨ number = 4 ∨ number = 5 ∨ number = 6 ∨ number = 7 := by omega
  rcases this with rfl | rfl | rfl | rfl | rfl | rfl | rfl | rfl
  · exact ⟨_, rfl, hd 0 (by omega)⟩
  · exact ⟨_, rfl, hd 1 (by omega)⟩
  · exact ⟨_, rfl, hd 2 (by omega)⟩
  · exact ⟨_, rfl, hd 3 (by omega)⟩
  · exact ⟨_, rfl, hd 4 (by omega)⟩
  · exact ⟨_, rfl, hd 5 (by omega)⟩
  · exact ⟨_, rfl, wayFn_place hn⟩
  · exact ⟨_, rfl, wayFn_last hn⟩

theorem index_way {arr : Array Value} {number : Nat} {u : Value} (hk : number ≤ 7) (hu : arr[number]? = some u) (w : World) : (Instr.index 102 (.agg arr) (.int .i64 (number : Int))).run Try.prog w = .ok u w := by
  have h1 : (0 : Int) ≤ (number : Int) ∧ (number : Int) < 8 := by omega
  simp [Instr.index, go_sem, h1, hu]
  intro h; omega

set_option maxRecDepth 100000 in
set_option maxHeartbeats 4000000 in
/-- **pointCounts**. -/
theorem points_as (a : Option Addr) (len cap : Nat) (ps : List Pl) (n : Int) (number : Nat) (v : Bool) (w : World) (h : IsPiles w a len cap ps) (hs : Small ps) (hv : fitsB ps n = v) (hk : number ≤ 7) :
    Calls Try.prog 52 #[.slice a len cap, .int .i64 n, .int .i64 (number : Int)] w (Told w (ptR number ps n) v) := by
  obtain ⟨i0, hi, hz0, hz1, hz2⟩ := info_parts int_info
  have HI := Lib.hid h
  have HS := Lib.hid hs
  have H1 := Lib.hid h.1
  clear h hs
  cases v
  · have HV := Lib.hid hv; clear hv
    have HR := Lib.hid (ptR_no (number := number) HV.out)
    go_enter Try.func52, Try.ntmps52
    go_wp2_with fail
    refine (implFits_as _ len cap ps n false _ HI.out HS.out HV.out).mono ?_
    rintro e1 w1 ⟨rfl, hb1⟩
    go_wp2
    go_ret2
    rw [Told, HR.out]
    exact ⟨none, 0, rfl, World.ownsRow_nil _ _ _ _, hb1⟩
  · obtain ⟨hp, hn1, hn5, -⟩ := fits_parts hv
    obtain ⟨N, rfl⟩ : ∃ N : Nat, n = (N : Int) := ⟨n.toNat, by omega⟩
    have hl12 : len ≤ 12 := by have := (pilesB_pos hp).2.2.2.2; rw [H1.out] at this; exact this
    have HR := Lib.hid (ptR_yes (number := number) hv)
    have HV := Lib.hid hv
    have HP := Lib.hid hp
    clear hv hp
    have hN1 : 1 ≤ N := by omega
    have hN5 : N ≤ 5 := by omega
    go_enter Try.func52, Try.ntmps52
    go_wp2_with fail
    refine (implFits_as _ len cap ps (N : Int) true _ HI.out HS.out HV.out).mono ?_
    rintro e1 w1 ⟨rfl, hb1⟩
    have B1 := Lib.hid hb1
    clear hb1
    go_wp2_with fail
    refine (ways_any _).mono ?_
    rintro e2 w2 ⟨G, rfl, hG, hb2⟩
    obtain ⟨u, hu, hw⟩ := way_at (n := N) hN5 hk (fun j hj => ⟨(hG j hj).1, (hG j hj).2.2⟩)
    have B2 := Lib.hid (B1.out.trans (hb2.mono B1.out.size))
    have HW := Lib.hid hw
    clear hG hb2 hw B1
    generalize #[wayD (G 0), wayD (G 1), wayD (G 2), wayD (G 3), wayD (G 4), wayD (G 5), Value.func (.func 110) #[] #[], Value.func (.func 111) #[] #[]] = arr at hu ⊢
    have hix := index_way hk hu w2
    obtain ⟨kf, cf, rfl, hent, hcl⟩ := HW.out
    have HC := Lib.hid hcl
    clear hcl HW hu
    go_wp2_with (at_make; refine wpList_make_full _ rfl _ _ 26 rfl w2.heap.size 3 i0 (.int .i64 0) 1 Try.underlying26 hi hz0 hz1 .i64 .i64 _ _ N rfl rfl rfl rfl (by rw [hz2]; omega) (by unfold maxLen; omega) (Nat.le_refl _) ?_; intro w3 hown hgrow)
    obtain ⟨g, hg⟩ : ∃ g, w2.heap.size = g := ⟨_, rfl⟩
    have hgw : w.heap.size ≤ g := by rw [← hg]; exact B2.out.size
    have hb3 : Below g w2 w3 := hg ▸ (Below.refl _ w2).grown hgrow (Nat.le_refl _) (fun k e => by cases e)
    rw [hg] at hown ⊢
    have O3 : Hid (w3.ownsRow g 3 1 (.slice (some ⟨g, 0, none⟩) N N) N ((ptL (wayP N number) (ps.take 0) N).map (Value.int .i64))) := by
      unfold Hid; rw [List.take_zero, ptL_nil, ← zeros_made]
      exact hown
    have HG := Lib.hid hg
    clear hown hgrow hg hix hi hz0 hz1 hz2
    go_wp2
    go_loopw [11, 12, 13, 14, 15, 27, 39] (fun _ _ _ _ _ iv _ wr => ∃ i : Nat, i ≤ len ∧ iv = .int .i64 (i : Int) ∧ Hid (wr.ownsRow g 3 1 (.slice (some ⟨g, 0, none⟩) N N) N ((ptL (wayP N number) (ps.take i) N).map (Value.int .i64))) ∧ Below g w2 wr) (fun _ _ _ _ _ iv _ _ => len - (intOf iv).toNat)
    case atStart => exact ⟨0, Nat.zero_le _, rfl, O3, hb3⟩
    case round =>
      clear O3 hb3
      obtain ⟨i, hil, rfl, hO, hB⟩ := hrel
      have hgr : g ≤ wr.heap.size := by have := hB.size; rw [HG.out] at this; exact this
      by_cases hlt : i < len
      · have hBw : Below w.heap.size w wr := B2.out.trans (hB.mono hgw)
        obtain ⟨b, off, rfl, hb, c0, c1⟩ := (HI.out.below hBw).at_text hlt
        obtain ⟨t, ht⟩ : ∃ t, tAt ps i = t := ⟨_, rfl⟩
        obtain ⟨m, hm⟩ : ∃ m, mAt ps i = m := ⟨_, rfl⟩
        obtain ⟨pl, hpl⟩ : ∃ pl, parseL t = pl := ⟨_, rfl⟩
        have hst : t.size ≤ 1048600 := by rw [← ht]; exact HS.out i
        have hm99 : 0 ≤ m ∧ m ≤ 99 := by rw [← hm]; exact mAt_valid HP.out i
        have hips : i < ps.length := by rw [H1.out]; exact hlt
        have hvN : validB pl (N : Int) = true := by rw [← hpl, ← ht]; exact (fits_parts HV.out).2.2.2 i hips
        have hlN : pl.length ≤ N := by have := vB_short hvN; omega
        have HOK : Hid (validB (nums t) 5 = true) := by
          have := (pilesB_pos HP.out).2.2.2.1 _ (pile_mem (ps := ps) (k := i) hips)
          unfold Hid; rw [← ht]; exact this
        have HNX : Hid (addTo (wayP N number) m pl pl.length (ptL (wayP N number) (ps.take i) N) = ptL (wayP N number) (ps.take (i + 1)) N) := by
          have := ptL_next (P := wayP N number) (n := N) hips (by rw [ht, hpl]; exact hvN)
          rw [ht, hm, hpl] at this; exact this
        have HBD : Hid (∀ x : Nat, 0 ≤ (ptL (wayP N number) (ps.take i) N)[x]?.getD 0 ∧ (ptL (wayP N number) (ps.take i) N)[x]?.getD 0 ≤ 5940) := fun x => ptL_bound (wayP_bound hN5) HV.out i x
        have HZ : Hid (∀ z ∈ pl, 0 ≤ z ∧ z < (N : Int)) := (vB_mem hvN).2.2
        obtain ⟨cs, hcs⟩ : ∃ cs, ptL (wayP N number) (ps.take i) N = cs := ⟨_, rfl⟩
        have hcl : cs.length = N := by rw [← hcs]; exact ptL_length _ _ _
        rw [hcs] at hO HNX HBD
        rw [ht] at c0
        rw [hm] at c1
        have HPL := Lib.hid hpl
        clear ht hpl hm hBw hcs hips hvN
        go_wp2_with fail
        refine (implParse_as t pl true _ hst HPL.out HOK.out).mono ?_
        rintro e w4 ⟨a4, c4, rfl, ho4, hb4⟩
        have hBx : Below wr.heap.size wr w4 := ((Below.refl _ _).alloc (Nat.le_refl _) _).trans (hb4.mono (by simp))
        have cm : w4.cell? ⟨wr.heap.size, 1, none⟩ = some (.int .i64 m) := (hb4.cell (p := ⟨wr.heap.size, 1, none⟩) (by simp)).trans ((World.cell?_alloc_mark wr _ _ (0, 0) 1).trans rfl)
        have hbm : wr.heap.size < w4.heap.size := by have := hb4.size; simp at this; omega
        have I4' : w4.ownsRow (wr.heap.size + 1) 3 1 (.slice a4 pl.length c4) pl.length (pl.map (Value.int .i64)) := by simpa using ho4
        have I4 := Lib.hid I4'
        clear I4'
        have hO4 : Hid (w4.ownsRow g 3 1 (.slice (some ⟨g, 0, none⟩) N N) N ((addTo (wayP N number) m pl 0 cs).map (Value.int .i64))) := owns_under hO.out hBx
        have hgl : g < wr.heap.size := (hO.out.lt g rfl).2
        have B4 : Below g w2 w4 := hB.trans (hBx.mono hgr)
        obtain ⟨gp, hgp⟩ : ∃ gp, wr.heap.size = gp := ⟨_, rfl⟩
        rw [hgp] at cm hbm hgl I4 ⊢
        clear ho4 hb4 hBx hO hB c0 c1 hgp hgr
        go_wp2
        go_loopw [14, 15, 39] (fun _ _ jv wr => ∃ j : Nat, j ≤ pl.length ∧ jv = .int .i64 (j : Int) ∧ Hid (wr.ownsRow g 3 1 (.slice (some ⟨g, 0, none⟩) N N) N ((addTo (wayP N number) m pl j cs).map (Value.int .i64))) ∧ Hid (wr.ownsRow (gp + 1) 3 1 (.slice a4 pl.length c4) pl.length (pl.map (Value.int .i64))) ∧ Hid (wr.cell? ⟨gp, 1, none⟩ = some (.int .i64 m)) ∧ gp < wr.heap.size ∧ Below g w2 wr) (fun _ _ jv _ => pl.length - (intOf jv).toNat)
        case atStart => exact ⟨0, Nat.zero_le _, rfl, hO4, I4, cm, hbm, B4⟩
        case round =>
          clear hO4 I4 cm hbm B4
          rename World => wx
          obtain ⟨j, hjl, rfl, hO, hI, hm1, hbm, hB⟩ := hrel
          by_cases hlj : j < pl.length
          · obtain ⟨b4, o4, rfl, -, hc4⟩ := (IsInts.of_owned hI.out (by omega)).2.2.2 (by omega)
            have hz := hc4 j hlj
            obtain ⟨z, hzz⟩ : ∃ z, pl[j]?.getD 0 = z := ⟨_, rfl⟩
            rw [hzz] at hz
            have hzr : 0 ≤ z ∧ z < (N : Int) := HZ.out z (by rw [← hzz]; simp [hlj])
            obtain ⟨x, rfl⟩ := Int.eq_ofNat_of_zero_le hzr.1
            have hxN : x < N := by omega
            obtain ⟨cv, hcv⟩ : ∃ cv, (addTo (wayP N number) m pl j cs)[x]?.getD 0 = cv := ⟨_, rfl⟩
            have hcvb : 0 ≤ cv ∧ cv ≤ 8415 := by
              have := addTo_bound (zs := pl) hm99 (wayP_bound (number := number) hN5) HBD.out j (by omega) x
              rw [hcv] at this; omega
            obtain ⟨q, hq⟩ : ∃ q, wayP N number j = q := ⟨_, rfl⟩
            have hqb : 0 ≤ q ∧ q ≤ 5 := by rw [← hq]; exact wayP_bound hN5 j (by omega)
            have hmq : 0 ≤ m * q ∧ m * q ≤ 495 := ⟨Int.mul_nonneg hm99.1 hqb.1, Int.le_trans (Int.mul_le_mul hm99.2 hqb.2 hqb.1 (by omega)) (by omega)⟩
            have hcell : wx.drew.cell? ⟨g, x, none⟩ = some (.int .i64 cv) := by
              have h1 : wx.drew.cell? ⟨g, x, none⟩ = wx.cell? ⟨g, x, none⟩ := rfl
              rw [h1, hO.out.cellAt x (by omega), ← hcv]
              have : x < (addTo (wayP N number) m pl j cs).length := by rw [addTo_length]; omega
              simp [this]
            have hfz : wx.drew.frozen? ⟨g, x, none⟩ = false := hO.out.frozenAt x
            have O7 : Hid ((wx.drew.setCell ⟨g, x, none⟩ (.int .i64 (cv + m * q))).ownsRow g 3 1 (.slice (some ⟨g, 0, none⟩) N N) N ((addTo (wayP N number) m pl (j + 1) cs).map (Value.int .i64))) := by
              have h1 := (hO.out.stored x (.int .i64 (cv + m * q))).1
              unfold Hid
              rw [addTo_succ, hzz, Int.toNat_natCast, hcv, hq, ← map_set_int]
              exact h1
            have I7 : Hid ((wx.drew.setCell ⟨g, x, none⟩ (.int .i64 (cv + m * q))).ownsRow (gp + 1) 3 1 (.slice (some ⟨b4, o4, none⟩) pl.length c4) pl.length (pl.map (Value.int .i64))) := by
              refine World.ownsRow.kept hI.out (row := some g) (w' := wx.drew.setCell ⟨g, x, none⟩ (.int .i64 (cv + m * q))) ⟨rfl, rfl, rfl, by simp [World.setCell], fun k hk hne => Below.heap_setCell _ _ _ _ (by show k ≠ g; intro e; exact hne (by rw [e]))⟩ ?_
              cases hbl : (Value.slice (some ⟨b4, o4, none⟩) pl.length c4).ownBlock with
              | none => exact .inl rfl
              | some jj => right; intro e; injection e with e; have := (hI.out.lt jj hbl).1; omega
            have M7 : Hid ((wx.drew.setCell ⟨g, x, none⟩ (.int .i64 (cv + m * q))).cell? ⟨gp, 1, none⟩ = some (.int .i64 m)) := by
              unfold Hid
              rw [World.cell?_setCell_other _ _ _ _ (by intro e; injection e with e _; omega)]
              exact hm1.out
            have B7 : Below g w2 (wx.drew.setCell ⟨g, x, none⟩ (.int .i64 (cv + m * q))) := (hB.drew).setCell (p := ⟨g, x, none⟩) (Nat.le_refl _) _
            have G7 : gp < (wx.drew.setCell ⟨g, x, none⟩ (.int .i64 (cv + m * q))).heap.size := by simp [World.setCell]; exact hbm
            have hcc := HC.out wx.drew (by rw [HG.out]; exact hB.drew) j (by omega)
            rw [hq] at hcc
            have HCC := Lib.hid (hcc.mono (R' := fun e w' => e = .returned (.int .i64 q) ∧ w' = wx.drew) (by rintro e w5 ⟨rfl, rfl⟩; exact ⟨rfl, rfl⟩))
            have hm2 := hm1.out
            have hxi : (x : Int) < (N : Int) := by omega
            have hji : (j : Int) < (pl.length : Int) := by omega
            clear hc4 hcv hq hzz hcc hO hI hm1
            go_wp2_with fail
            refine region_quiet_tail 12 (by kernel_rfl) (by kernel_rfl) ?_
            simp only [List.take_succ_cons, List.take_zero, List.drop_succ_cons, List.drop_zero]
            repeat (first | go_big_quiet_step (fail) | (go_big_quiet_want; go_big_quiet_op; refine ⟨_, HCC.out, ?_⟩; go_big_quiet_on))
            refine wpQuiet_nil ?_
            generalize wx.drew = w6 at O7 I7 M7 B7 G7 hcell hfz ⊢
            go_wp2
            go_roundw
            case rel => exact ⟨j + 1, by omega, by go_num, O7, I7, M7, G7, B7⟩
            case measure => simp [intOf]; omega
          · obtain rfl : j = pl.length := by omega
            have hO9 := hO.out
            rw [HNX.out] at hO9
            have hO8 := Lib.hid hO9
            clear hO9
            go_wp2
            go_roundw
            case rel => exact ⟨i + 1, by omega, by go_num, hO8, hB⟩
            case measure => simp [intOf]; omega
      · obtain rfl : i = len := by omega
        have hO9 : Hid (wr.ownsRow g 3 1 (.slice (some ⟨g, 0, none⟩) N N) N ((ptL (wayP N number) ps N).map (Value.int .i64))) := by
          have := hO.out; rw [List.take_of_length_le (by rw [H1.out]; exact Nat.le_refl _)] at this; exact this
        have hlen : (ptL (wayP N number) ps N).length = N := ptL_length _ _ _
        go_wp2
        go_ret2
        rw [Told, HR.out, hlen]
        exact ⟨some ⟨g, 0, none⟩, N, rfl, hO9.out.mono hgw, B2.out.trans (hB.mono hgw)⟩

set_option maxRecDepth 100000 in
set_option maxHeartbeats 2000000 in
/-- **impl.DepthCounts**. -/
theorem implDepth_as (a : Option Addr) (len cap : Nat) (ps : List Pl) (n d : Int) (v : Bool) (l : List Int) (w : World) (h : IsPiles w a len cap ps) (hs : Small ps) (hv : depOk ps n d = v) (hl : depR ps n d = l) :
    Calls Try.prog 16 #[.slice a len cap, .int .i64 n, .int .i64 d] w (Told w l v) := by
  have HI := Lib.hid h
  have HS := Lib.hid hs
  clear h hs
  by_cases h0 : d < 0
  · have hd : decide (d < 0) = true := decide_eq_true h0
    have e1 := depOk_out (ps := ps) (n := n) (.inl h0)
    rw [e1] at hv
    rw [depR_no e1] at hl
    subst hv hl
    clear e1
    go_enter Try.func16, Try.ntmps16
    go_wp2
    go_ret2
    exact ⟨none, 0, rfl, World.ownsRow_nil _ _ _ _, Below.refl _ _⟩
  · have hd : decide (d < 0) = false := decide_eq_false h0
    by_cases h5 : 5 < d
    · have hd5 : decide (5 < d) = true := decide_eq_true h5
      have e1 := depOk_out (ps := ps) (n := n) (.inr h5)
      rw [e1] at hv
      rw [depR_no e1] at hl
      subst hv hl
      clear e1
      go_enter Try.func16, Try.ntmps16
      go_wp2
      go_ret2
      exact ⟨none, 0, rfl, World.ownsRow_nil _ _ _ _, Below.refl _ _⟩
    · have hd5 : decide (5 < d) = false := decide_eq_false h5
      obtain ⟨k, rfl⟩ := Int.eq_ofNat_of_zero_le (by omega : 0 ≤ d)
      have hk5 : k ≤ 5 := by omega
      rw [depOk_in (by omega) (by omega)] at hv
      rw [depR_in hk5] at hl
      have HV := Lib.hid hv
      have HL := Lib.hid hl
      clear hv hl
      go_enter Try.func16, Try.ntmps16
      go_wp2_with fail
      refine (points_as _ _ _ ps n k v _ HI.out HS.out HV.out (by omega)).mono ?_
      rw [HL.out]
      rintro e1 w1 ⟨a1, c1, rfl, ho, hb⟩
      go_wp2
      go_ret2
      exact ⟨a1, c1, rfl, ho, hb⟩
set_option maxRecDepth 100000 in
set_option maxHeartbeats 2000000 in
/-- **impl.PlaceCounts**. -/
theorem implPlace_as (a : Option Addr) (len cap : Nat) (ps : List Pl) (n : Int) (v : Bool) (l : List Int) (w : World) (h : IsPiles w a len cap ps) (hs : Small ps) (hv : fitsB ps n = v) (hl : plaR ps n = l) :
    Calls Try.prog 28 #[.slice a len cap, .int .i64 n] w (Told w l v) := by
  rw [plaR_pts] at hl
  have HI := Lib.hid h
  have HS := Lib.hid hs
  have HV := Lib.hid hv
  have HL := Lib.hid hl
  clear h hs hv hl
  go_enter Try.func28, Try.ntmps28
  go_wp2_with fail
  refine (points_as _ _ _ ps n 6 v _ HI.out HS.out HV.out (by omega)).mono ?_
  rw [HL.out]
  rintro e1 w1 ⟨a1, c1, rfl, ho, hb⟩
  go_wp2
  go_ret2
  exact ⟨a1, c1, rfl, ho, hb⟩
set_option maxRecDepth 100000 in
set_option maxHeartbeats 2000000 in
/-- **impl.LastCounts**. -/
theorem implLast_as (a : Option Addr) (len cap : Nat) (ps : List Pl) (n : Int) (v : Bool) (l : List Int) (w : World) (h : IsPiles w a len cap ps) (hs : Small ps) (hv : fitsB ps n = v) (hl : lasR ps n = l) :
    Calls Try.prog 39 #[.slice a len cap, .int .i64 n] w (Told w l v) := by
  rw [lasR_pts] at hl
  have HI := Lib.hid h
  have HS := Lib.hid hs
  have HV := Lib.hid hv
  have HL := Lib.hid hl
  clear h hs hv hl
  go_enter Try.func39, Try.ntmps39
  go_wp2_with fail
  refine (points_as _ _ _ ps n 7 v _ HI.out HS.out HV.out (by omega)).mono ?_
  rw [HL.out]
  rintro e1 w1 ⟨a1, c1, rfl, ho, hb⟩
  go_wp2
  go_ret2
  exact ⟨a1, c1, rfl, ho, hb⟩

end Go.Proofs.Ytojfpnjnbpeniaa

namespace Go.Proofs.Ytojfpnjnbpeniaa
open Go.RowKit

/-- **impl.LotsValid**. -/
theorem implLots_any (a : Option Addr) (len cap : Nat) (zs : List Int) (w : World) (h : IsInts w a len cap zs) :
    Calls Try.prog 60 #[.slice a len cap] w fun e w' => e = .returned (.bool (lotsB zs)) ∧ Below w.heap.size w w' := by
  have HV : Hid (validB zs (len : Int) = lotsB zs) := by unfold Hid lotsB; rw [h.1]
  have H := Lib.hid h; clear h
  go_enter Try.func60, Try.ntmps60
  go_wp2_with fail
  refine (implValid_any _ _ _ zs _ _ H.out).mono ?_
  rintro e w1 ⟨rfl, hb⟩
  go_wp2
  go_ret
  exact ⟨ret_bool HV.out, hb⟩

set_option maxHeartbeats 1000000 in
/-- **impl.LotsFirst**. -/
theorem implPick_any (a : Option Addr) (len cap : Nat) (zs : List Int) (a' : Option Addr) (len' cap' : Nat) (L : List Bool) (w : World) (h : IsInts w a len cap zs) (h' : IsBools w a' len' cap' L) :
    Calls Try.prog 99 #[.slice a len cap, .slice a' len' cap'] w fun e w' => e = .returned (.int .i64 (pickB zs L)) ∧ Below w.heap.size w w' := by
  have hE : Hid (pickB zs L = if lotsB zs = true ∧ len' = len then pickL zs L else -1) := by unfold Hid pickB; rw [h.1, h'.1]
  have hm := h'.2.2.1
  have hm' := h.2.2.1
  have HL := Lib.hid h.1
  have H := Lib.hid h; clear h
  have H' := Lib.hid h'; clear h'
  cases hv : lotsB zs
  · have HV := Lib.hid hv
    go_enter Try.func99, Try.ntmps99
    go_wp2_with fail
    refine (implLots_any _ _ _ zs _ H.out).mono ?_
    rintro e w1 ⟨he, hb⟩
    rw [HV.out] at he
    subst he
    go_wp2
    go_ret
    refine ⟨ret_int ?_, hb⟩
    rw [hE.out, HV.out]; rfl
  · have HV := Lib.hid hv
    by_cases hll : len' = len
    · have HR : Hid (∀ z ∈ zs, 0 ≤ z ∧ z < (len' : Int)) := by intro z hz; have := lotsB_mem HV.out z hz; rw [HL.out] at this; omega
      subst hll
      have hne : ((len' : Int) != (len' : Int)) = false := by simp
      go_enter Try.func99, Try.ntmps99
      go_wp2_with fail
      refine (implLots_any _ _ _ zs _ H.out).mono ?_
      rintro e w1 ⟨he, hb⟩
      rw [HV.out] at he
      subst he
      have HB := Lib.hid hb
      obtain ⟨-, -, -, h4⟩ := H.out.below hb
      obtain ⟨-, -, -, g4⟩ := H'.out.below hb
      have H4 := Lib.hid h4; clear h4
      have G4 := Lib.hid g4; clear g4 hb
      go_wp2
      go_loop [19] (fun i => ∃ k : Nat, k ≤ len' ∧ i = .int .i64 k ∧ Hid (pickL zs L = pickL (zs.drop k) L)) (fun i => len' - (intOf i).toNat)
      case atStart => exact ⟨0, Nat.zero_le _, rfl, by simp [Hid]⟩
      case round =>
        obtain ⟨k, hk, rfl, hp⟩ := hrel
        by_cases hlt : k < len'
        · obtain ⟨b, o, rfl, hb, hc⟩ := H4.out (by omega)
          have hz := hc k hlt
          have hkz : k < zs.length := by rw [HL.out]; exact hlt
          have hr := HR.out (zs[k]?.getD 0) (by simp [hkz])
          obtain ⟨c, hcz⟩ := Int.eq_ofNat_of_zero_le hr.1
          obtain ⟨lb, lo, rfl, hlb, hlc⟩ := G4.out (by omega)
          have hcl : c < len' := by omega
          have hcell := hlc c hcl
          rw [hcz] at hz
          have HD := drop_cons zs k hkz
          rw [hcz] at HD
          have HD := Lib.hid HD
          clear hc hlc hr hcz hkz
          cases hLc : L[c]?.getD false
          · have HLc := Lib.hid hLc
            rw [hLc] at hcell
            clear hLc
            go_wp2
            go_round
            case rel =>
              refine ⟨k + 1, by omega, by go_num, ?_⟩
              unfold Hid
              rw [hp.out, HD.out, pickL, if_neg (by rw [Int.toNat_natCast, HLc.out]; simp)]
            case measure => simp [intOf]; omega
          · have HLc := Lib.hid hLc
            rw [hLc] at hcell
            clear hLc
            go_wp2
            go_ret
            refine ⟨ret_int ?_, HB.out⟩
            rw [hE.out, if_pos (by simp [HV.out]), hp.out, HD.out, pickL, if_pos (by rw [Int.toNat_natCast]; exact HLc.out)]
        · obtain rfl : k = len' := by omega
          go_wp2
          go_ret
          refine ⟨ret_int ?_, HB.out⟩
          rw [hE.out, if_pos (by simp [HV.out]), hp.out, List.drop_of_length_le (by rw [HL.out]; omega)]; rfl
    · have hll2 : ¬ (len' : Int) = (len : Int) := by omega
      have hll3 : ((len' : Int) != (len : Int)) = true := by simpa using hll2
      go_enter Try.func99, Try.ntmps99
      go_wp2_with fail
      refine (implLots_any _ _ _ zs _ H.out).mono ?_
      rintro e w1 ⟨he, hb⟩
      rw [HV.out] at he
      subst he
      go_wp2
      go_ret
      refine ⟨ret_int ?_, hb⟩
      rw [hE.out, if_neg (fun e => hll e.2)]

end Go.Proofs.Ytojfpnjnbpeniaa
