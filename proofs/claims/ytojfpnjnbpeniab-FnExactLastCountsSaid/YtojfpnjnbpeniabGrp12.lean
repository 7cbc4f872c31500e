/-
  impl.waysToCount: the table of all ways to count. No condition.
  Whether piles fit n candidates: impl.pilesFit, for every list of piles (at most 1048600, with texts of at most 1048600 bytes) and every number; it does not write into memory that was there.
  A region that draws its order, whose last operations are one forced order and whose others only read: the others by the cheap steps of a quiet walk, in one world. No function of the seat.
  impl.pointCounts, and DepthCounts, PlaceCounts and LastCounts of impl: for every list of piles (at most 1048600, with texts of at most 1048600 bytes) and every number.
-/
import Derived.Test.YtojfpnjnbpeniabGrp11
import Derived.Laws.EntriesVeiled
import Derived.Shelf.Abstract
import Derived.Test.YtojfpnjnbpeniabGrp5
import Derived.Test.YtojfpnjnbpeniabGrp3
import Derived.Test.YtojfpnjnbpeniabGrp1
import Derived.BigQuiet
import Derived.StillTailTactics
namespace Go.Proofs.Ytojfpnjnbpeniab
open Go.RowKit

attribute [local go_sem] Oper.semAt_some

/-- The way of a depth. -/
def wayD (g : Nat) : Value := .func (.func 33) #[] #[.pointer (some ⟨g, 0, none⟩)]
/-- The table with the first d depths. -/
def slotV (G : Nat → Nat) (d j : Nat) : Value := if j < d then wayD (G j) else if j = 6 then .func (.func 30) #[] #[] else if j = 7 then .func (.func 31) #[] #[] else .nilFunc
structure Ways (B b d : Nat) (G : Nat → Nat) (w : World) : Prop where
  lt : b < w.heap.size
  cell : ∀ j, j < 8 → w.cell? ⟨b, j, none⟩ = some (slotV G d j)
  free : ∀ j, w.frozen? ⟨b, j, none⟩ = false
  own : ∀ j, j < d → w.cell? ⟨G j, 0, none⟩ = some (.int .i64 (j : Int)) ∧ B ≤ G j ∧ G j < w.heap.size ∧ b < G j
theorem Ways.step {B b d : Nat} {G : Nat → Nat} {w : World} (h : Ways B b d G w) (hd : d < 6) (hB : B ≤ w.heap.size) (t : TypeId) :
    Ways B b (d + 1) (fun j => if j = d then w.heap.size else G j) ((w.alloc (.cells #[.int .i64 (d : Int)] t)).setCell ⟨b, d, none⟩ (wayD w.heap.size)) := by
  have hb := h.lt
  have hn : (w.alloc (.cells #[.int .i64 (d : Int)] t)).heap.size = w.heap.size + 1 := by simp
  have hold : ∀ (p : Addr), p.block < w.heap.size → (w.alloc (.cells #[.int .i64 (d : Int)] t)).cell? p = w.cell? p := fun p hp => ((Below.refl w.heap.size w).alloc (Nat.le_refl _) _).cell hp
  have hfold : ∀ (p : Addr), p.block < w.heap.size → (w.alloc (.cells #[.int .i64 (d : Int)] t)).frozen? p = w.frozen? p := fun p hp => ((Below.refl w.heap.size w).alloc (Nat.le_refl _) _).frozen hp
  refine ⟨by simp [World.setCell]; omega, fun j hj => ?_, fun j => ?_, fun j hj => ?_⟩
  · by_cases e : j = d
    · subst e
      rw [World.cell?_setCell_same' _ _ _ (by rw [hold _ hb, h.cell j hj]; rfl)]
      simp [slotV]
    · rw [World.cell?_setCell_other _ _ _ _ (by intro q; injection q with _ q; omega), hold _ hb, h.cell j hj]
      unfold slotV
      by_cases g : j < d
      · rw [if_pos g, if_pos (show j < d + 1 by omega)]; simp only [if_neg e]
      · rw [if_neg g, if_neg (show ¬ j < d + 1 by omega)]
  · rw [World.frozen?_setCell, hfold _ hb]; exact h.free j
  · by_cases e : j = d
    · subst e
      simp only [if_true]
      refine ⟨?_, hB, by simp [World.setCell], hb⟩
      rw [World.cell?_setCell_other _ _ _ _ (by intro q; injection q with q _; omega)]
      exact (World.cell?_alloc_mark w _ t (0, 0) 0).trans rfl
    · obtain ⟨h1, h2, h3, h4⟩ := h.own j (by omega)
      rw [if_neg e]
      refine ⟨?_, h2, by simp [World.setCell]; omega, h4⟩
      rw [World.cell?_setCell_other _ _ _ _ (by intro q; injection q with q _; omega), hold _ h3]
      exact h1

theorem ways_start (w : World) (t : TypeId) : Ways w.heap.size (w.heap.size + 1) 0 (fun _ => 0) ((w.alloc (.cells #[.nilFunc, .nilFunc, .nilFunc, .nilFunc, .nilFunc, .nilFunc, .nilFunc, .nilFunc] t)).alloc (.cells #[.nilFunc, .nilFunc, .nilFunc, .nilFunc, .nilFunc, .nilFunc, .func (.func 30) #[] #[], .func (.func 31) #[] #[]] t)) := by
  have hn : (w.alloc (.cells #[.nilFunc, .nilFunc, .nilFunc, .nilFunc, .nilFunc, .nilFunc, .nilFunc, .nilFunc] t)).heap.size = w.heap.size + 1 := by simp
  refine ⟨by simp, fun j hj => ?_, fun j => ?_, fun j hj => by omega⟩
  · rw [← hn]
    refine (World.cell?_alloc_mark _ _ t (0, 0) j).trans ?_
    have : j = 0 ∨ j = 1 ∨ j = 2 ∨ j = 3 ∨ j = 4 ∨ j = 5 ∨ j = 6 ∨ j = 7 := by omega
    rcases this with rfl | rfl | rfl | rfl | rfl | rfl | rfl | rfl <;> rfl
  · rw [← hn]
    exact (World.frozen?_alloc_mark _ _ t 0 0 j).trans rfl
/-- The result's block. -/
def Res8 (b : Nat) (w : World) : Prop := b < w.heap.size ∧ (∀ j, j < 8 → w.cell? ⟨b, j, none⟩ = some .nilFunc) ∧ ∀ j, w.frozen? ⟨b, j, none⟩ = false
theorem res_start (w : World) (t : TypeId) (o : Obj) : Res8 w.heap.size ((w.alloc (.cells #[.nilFunc, .nilFunc, .nilFunc, .nilFunc, .nilFunc, .nilFunc, .nilFunc, .nilFunc] t)).alloc o) := by
  have hb : Below (w.heap.size + 1) (w.alloc (.cells #[.nilFunc, .nilFunc, .nilFunc, .nilFunc, .nilFunc, .nilFunc, .nilFunc, .nilFunc] t)) ((w.alloc (.cells #[.nilFunc, .nilFunc, .nilFunc, .nilFunc, .nilFunc, .nilFunc, .nilFunc, .nilFunc] t)).alloc o) := (Below.refl _ _).alloc (by simp) _
  refine ⟨by simp; omega, fun j hj => ?_, fun j => ?_⟩
  · refine (hb.cell (p := ⟨w.heap.size, j, none⟩) (Nat.lt_succ_self _)).trans ((World.cell?_alloc_mark _ _ t (0, 0) j).trans ?_)
    have : j = 0 ∨ j = 1 ∨ j = 2 ∨ j = 3 ∨ j = 4 ∨ j = 5 ∨ j = 6 ∨ j = 7 := by omega
    rcases this with rfl | rfl | rfl | rfl | rfl | rfl | rfl | rfl <;> rfl
  · exact (hb.frozen (p := ⟨w.heap.size, j, none⟩) (Nat.lt_succ_self _)).trans ((World.frozen?_alloc_mark _ _ t 0 0 j).trans rfl)
theorem Res8.step {b c d : Nat} {w : World} (h : Res8 b w) (hbc : b ≠ c) (o : Obj) (v : Value) : Res8 b ((w.alloc o).setCell ⟨c, d, none⟩ v) := by
  have hb : Below w.heap.size w (w.alloc o) := (Below.refl _ _).alloc (Nat.le_refl _) _
  refine ⟨by simp [World.setCell]; have := h.1; omega, fun j hj => ?_, fun j => ?_⟩
  · rw [World.cell?_setCell_other _ _ _ _ (by intro q; injection q with q _; exact hbc q.symm)]
    exact (hb.cell (p := ⟨b, j, none⟩) h.1).trans (h.2.1 j hj)
  · rw [World.frozen?_setCell]; exact (hb.frozen (p := ⟨b, j, none⟩) h.1).trans (h.2.2 j)

set_option maxRecDepth 100000 in
set_option maxHeartbeats 2000000 in
/-- **waysToCount**. -/
theorem ways_any (w : World) : Calls Try.prog 24 #[] w fun e w' => ∃ G : Nat → Nat, e = .returned (.agg #[wayD (G 0), wayD (G 1), wayD (G 2), wayD (G 3), wayD (G 4), wayD (G 5), .func (.func 30) #[] #[], .func (.func 31) #[] #[]]) ∧
    (∀ j, j < 6 → w'.cell? ⟨G j, 0, none⟩ = some (.int .i64 (j : Int)) ∧ w.heap.size ≤ G j ∧ G j < w'.heap.size) ∧ Below w.heap.size w w' := by
  have hS := ways_start w 49
  have hR := res_start w 49 (.cells #[.nilFunc, .nilFunc, .nilFunc, .nilFunc, .nilFunc, .nilFunc, .func (.func 30) #[] #[], .func (.func 31) #[] #[]] 49)
  have HS := Lib.hid hS
  have HR := Lib.hid hR
  clear hS hR
  go_enter Try.func24, Try.ntmps24
  go_wp2
  go_loopw [2, 4] (fun _ dv wr => ∃ (d : Nat) (G : Nat → Nat), d ≤ 6 ∧ dv = .int .i64 (d : Int) ∧ Hid (Ways w.heap.size (w.heap.size + 1) d G wr) ∧ Hid (Res8 w.heap.size wr) ∧ Below w.heap.size w wr) (fun _ dv _ => 6 - (intOf dv).toNat)
  case atStart => exact ⟨0, fun _ => 0, by omega, rfl, HS, HR, ((Below.refl _ _).alloc (Nat.le_refl _) _).alloc (by simp) _⟩
  case round =>
    clear HS HR
    obtain ⟨d, G, hd, rfl, hW, hR, hB⟩ := hrel
    have hsz := hB.size
    by_cases hlt : d < 6
    · have hc := hW.out.cell d (by omega)
      have hf := hW.out.free d
      have hst := Lib.hid (hW.out.step hlt hsz 3)
      have hrs := Lib.hid (hR.out.step (c := w.heap.size + 1) (d := d) (by omega) (.cells #[.int .i64 (d : Int)] 3) (wayD wr.heap.size))
      have hbl := hW.out.lt
      have hb1 : Below w.heap.size w ((wr.alloc (.cells #[.int .i64 (d : Int)] 3)).setCell ⟨w.heap.size + 1, d, none⟩ (wayD wr.heap.size)) := (hB.alloc hsz _).setCell (p := ⟨w.heap.size + 1, d, none⟩) (by show w.heap.size ≤ w.heap.size + 1; omega) _
      have hbd : Below wr.heap.size wr (wr.alloc (.cells #[.int .i64 (d : Int)] 3)) := (Below.refl _ _).alloc (Nat.le_refl _) _
      have hc2 : (wr.alloc (.cells #[.int .i64 (d : Int)] 3)).cell? ⟨w.heap.size + 1, d, none⟩ = some (slotV G d d) := (hbd.cell (p := ⟨w.heap.size + 1, d, none⟩) hbl).trans hc
      have hf2 : (wr.alloc (.cells #[.int .i64 (d : Int)] 3)).frozen? ⟨w.heap.size + 1, d, none⟩ = false := (hbd.frozen (p := ⟨w.heap.size + 1, d, none⟩) hbl).trans hf
      have hdi : (d : Int) < 8 := by omega
      clear hc hf hbd
      obtain ⟨s0, hs0⟩ : ∃ s0, slotV G d d = s0 := ⟨_, rfl⟩
      rw [hs0] at hc2
      clear hs0
      have he : (wr.alloc (.cells #[.int .i64 (d : Int)] 3)).setCell ⟨w.heap.size + 1, d, none⟩ (wayD wr.heap.size) = (wr.setCell ⟨w.heap.size + 1, d, none⟩ (wayD wr.heap.size)).alloc (.cells #[.int .i64 (d : Int)] 3) := World.setCell_alloc_past _ _ _ _ hbl
      rw [he] at hst hrs hb1
      clear he
      go_wp2
      go_roundw
      case rel => exact ⟨d + 1, _, by omega, by go_num, hst, hrs, hb1⟩
      case measure => simp [intOf]; omega
    · obtain rfl : d = 6 := by omega
      have k0 := hW.out.cell 0 (by omega)
      have k1 := hW.out.cell 1 (by omega)
      have k2 := hW.out.cell 2 (by omega)
      have k3 := hW.out.cell 3 (by omega)
      have k4 := hW.out.cell 4 (by omega)
      have k5 := hW.out.cell 5 (by omega)
      have k6 := hW.out.cell 6 (by omega)
      have k7 := hW.out.cell 7 (by omega)
      simp only [slotV, wayD] at k0 k1 k2 k3 k4 k5 k6 k7
      have r0 := hR.out.2.1 0 (by omega)
      have r1 := hR.out.2.1 1 (by omega)
      have r2 := hR.out.2.1 2 (by omega)
      have r3 := hR.out.2.1 3 (by omega)
      have r4 := hR.out.2.1 4 (by omega)
      have r5 := hR.out.2.1 5 (by omega)
      have r6 := hR.out.2.1 6 (by omega)
      have r7 := hR.out.2.1 7 (by omega)
      have f0 := hR.out.2.2 0
      have f1 := hR.out.2.2 1
      have f2 := hR.out.2.2 2
      have f3 := hR.out.2.2 3
      have f4 := hR.out.2.2 4
      have f5 := hR.out.2.2 5
      have f6 := hR.out.2.2 6
      have f7 := hR.out.2.2 7
      have HO := Lib.hid hW.out.own
      clear hW hR
      go_wp2
      refine bodyPost_ret (v := .agg #[wayD (G 0), wayD (G 1), wayD (G 2), wayD (G 3), wayD (G 4), wayD (G 5), .func (.func 30) #[] #[], .func (.func 31) #[] #[]]) (by simp [results, Try.results24, go_sem, wayD, r0, r1, r2, r3, r4, r5, r6, r7]) rfl ?_
      have hset : ∀ (u : World) (o : Nat) (v : Value) (g : Nat), g ≠ w.heap.size → (u.setCell ⟨w.heap.size, o, none⟩ v).cell? ⟨g, 0, none⟩ = u.cell? ⟨g, 0, none⟩ := fun u o v g hg => World.cell?_setCell_other _ _ _ _ (by intro q; injection q with q _; exact hg q.symm)
      refine ⟨G, rfl, fun j hj => ?_, ?_⟩
      · obtain ⟨h1, h2, h3, h4⟩ := HO.out j hj
        refine ⟨?_, h2, by simpa [World.setCell] using h3⟩
        rw [hset _ _ _ _ (by omega), hset _ _ _ _ (by omega), hset _ _ _ _ (by omega), hset _ _ _ _ (by omega), hset _ _ _ _ (by omega), hset _ _ _ _ (by omega), hset _ _ _ _ (by omega), hset _ _ _ _ (by omega)]
        exact h1
      · exact (((((((hB.setCell (p := ⟨w.heap.size, 0, none⟩) (Nat.le_refl _) _).setCell (p := ⟨w.heap.size, 1, none⟩) (Nat.le_refl _) _).setCell (p := ⟨w.heap.size, 2, none⟩) (Nat.le_refl _) _).setCell (p := ⟨w.heap.size, 3, none⟩) (Nat.le_refl _) _).setCell (p := ⟨w.heap.size, 4, none⟩) (Nat.le_refl _) _).setCell (p := ⟨w.heap.size, 5, none⟩) (Nat.le_refl _) _).setCell (p := ⟨w.heap.size, 6, none⟩) (Nat.le_refl _) _).setCell (p := ⟨w.heap.size, 7, none⟩) (Nat.le_refl _) _

end Go.Proofs.Ytojfpnjnbpeniab

namespace Go.Proofs.Ytojfpnjnbpeniab
open Go.RowKit

attribute [local go_sem] Oper.semAt_some

theorem fits_out {ps : List Pl} {n : Int} (h : n < 1 ∨ 5 < n) : fitsB ps n = false := by
  have e : inB n 1 5 = false := by unfold inB; exact decide_eq_false (by omega)
  unfold fitsB; rw [e]; simp

set_option maxRecDepth 100000 in
set_option maxHeartbeats 2000000 in
/-- **impl.pilesFit**. -/
theorem implFits_as (a : Option Addr) (len cap : Nat) (ps : List Pl) (n : Int) (v : Bool) (w : World) (h : IsPiles w a len cap ps) (hs : Small ps) (hv : fitsB ps n = v) :
    Calls Try.prog 23 #[.slice a len cap, .int .i64 n] w fun e w' => e = .returned (.bool v) ∧ Below w.heap.size w w' := by
  have HI := Lib.hid h
  have HS := Lib.hid hs
  have HV := Lib.hid hv
  have H1 := Lib.hid h.1
  clear h hs hv
  obtain ⟨G, hG⟩ : ∃ G, w.heap.size = G := ⟨_, rfl⟩
  by_cases h1 : n < 1
  · have HE : Hid (fitsB ps n = false) := fits_out (by omega)
    have hd : decide (n < 1) = true := decide_eq_true h1
    go_enter Try.func23, Try.ntmps23
    go_wp2
    go_ret
    exact ⟨ret_bool (by rw [← HV.out, HE.out]), Below.refl _ _⟩
  by_cases h5 : 5 < n
  · have HE : Hid (fitsB ps n = false) := fits_out (by omega)
    have hd : decide (n < 1) = false := decide_eq_false h1
    have hd5 : decide (5 < n) = true := decide_eq_true h5
    go_enter Try.func23, Try.ntmps23
    go_wp2
    go_ret
    exact ⟨ret_bool (by rw [← HV.out, HE.out]), Below.refl _ _⟩
  have hd : decide (n < 1) = false := decide_eq_false h1
  have hd5 : decide (5 < n) = false := decide_eq_false h5
  have HIN : Hid (inB n 1 5 = true) := by unfold Hid inB; simp; omega
  cases hp : pilesB ps
  · have HE : Hid (fitsB ps n = false) := by unfold Hid fitsB; rw [hp]; rfl
    have HP := Lib.hid hp; clear hp
    go_enter Try.func23, Try.ntmps23
    go_wp2_with fail
    refine (implPiles_as _ _ _ ps false _ HI.out HS.out HP.out).mono ?_
    rintro e w3 ⟨rfl, hb3⟩
    go_wp2
    go_ret
    exact ⟨ret_bool (by rw [← HV.out, HE.out]), hb3⟩
  · have hl12 : len ≤ 12 := by have := (pilesB_pos hp).2.2.2.2; rw [H1.out] at this; exact this
    have HP := Lib.hid hp; clear hp
    go_enter Try.func23, Try.ntmps23
    go_wp2_with fail
    refine (implPiles_as _ _ _ ps true _ HI.out HS.out HP.out).mono ?_
    rintro e w3 ⟨rfl, hb3⟩
    have B3 := Lib.hid (hG ▸ hb3); clear hb3
    go_wp2
    go_loopw [6, 7, 8, 22] (fun _ _ _ i wr => ∃ k : Nat, k ≤ len ∧ i = .int .i64 k ∧ Hid (∀ j, j < k → validB (parseL (tAt ps j)) n = true) ∧ Below G w wr) (fun _ _ _ i _ => len - (intOf i).toNat)
    case atStart => exact ⟨0, Nat.zero_le _, rfl, fun j hj => by omega, B3.out⟩
    case round =>
      obtain ⟨k, hk, rfl, hA, hB⟩ := hrel
      have hBw : Below w.heap.size w wr := hG.symm ▸ hB
      by_cases hlt : k < len
      · obtain ⟨b, off, rfl, hb, c0, c1⟩ := (HI.out.below hBw).at_text hlt
        obtain ⟨t, ht⟩ : ∃ t, tAt ps k = t := ⟨_, rfl⟩
        obtain ⟨m, hm⟩ : ∃ m, mAt ps k = m := ⟨_, rfl⟩
        obtain ⟨pl, hpl⟩ : ∃ pl, parseL t = pl := ⟨_, rfl⟩
        obtain ⟨u, hu⟩ : ∃ u, validB pl n = u := ⟨_, rfl⟩
        have hst : t.size ≤ 1048600 := by rw [← ht]; exact HS.out k
        have hl5 : pl.length ≤ 5 := by rw [← hpl]; exact parseL_short t
        have HOK : Hid (validB (nums t) 5 = true) := by
          have := (pilesB_pos HP.out).2.2.2.1 _ (pile_mem (ps := ps) (k := k) (by rw [H1.out]; exact hlt))
          unfold Hid; rw [← ht]; exact this
        rw [ht] at c0
        rw [hm] at c1
        have HT := Lib.hid ht
        have HPL := Lib.hid hpl
        have HU := Lib.hid hu
        have hGs : G ≤ wr.heap.size := by have := hB.size; rw [hG] at this; exact this
        clear ht hpl hu hBw hm
        go_wp2_with fail
        refine (implParse_as t pl true _ hst HPL.out HOK.out).mono ?_
        rintro e w4 ⟨a4, c4, rfl, ho4, hb4⟩
        have I4 := Lib.hid (IsInts.of_owned ho4 (by omega))
        have B4 : Hid (Below G w w4) := by
          refine hB.trans (Below.mono (?_ : Below wr.heap.size wr w4) hGs)
          first | exact ((Below.refl _ _).alloc (Nat.le_refl _) _).trans (hb4.mono (by simp)) | trace_state
        clear ho4 hb4
        go_wp2_with fail
        refine (implValid_any _ _ _ pl n _ I4.out).mono ?_
        rintro e w5 ⟨he, hb5⟩
        rw [HU.out] at he
        subst he
        have B5 := Lib.hid (B4.out.trans (hb5.mono (by have := B4.out.size; rw [hG] at this; exact this)))
        clear hb5
        have HN : Hid (validB (parseL (tAt ps k)) n = u) := by unfold Hid; rw [HT.out, HPL.out, HU.out]
        cases u
        · go_wp2
          go_ret
          exact ⟨ret_bool (by rw [← HV.out]; exact (fits_no (by rw [H1.out]; exact hlt) HN.out).symm), hG.symm ▸ B5.out⟩
        · go_wp2
          go_roundw
          case rel =>
            refine ⟨k + 1, by omega, by go_num, fun j hj => ?_, B5.out⟩
            by_cases e : j = k
            · subst e; exact HN.out
            · exact hA.out j (by omega)
          case measure => simp [intOf]; omega
      · obtain rfl : k = len := by omega
        have HE : Hid (fitsB ps n = (pilesB ps && inB n 1 5)) := fits_all (fun i hi => hA.out i (by rw [← H1.out]; exact hi))
        go_wp2
        go_ret
        exact ⟨ret_bool (by rw [← HV.out, HE.out, HP.out, HIN.out]; rfl), hG.symm ▸ hB⟩

end Go.Proofs.Ytojfpnjnbpeniab

namespace Go.Proofs.Ytojfpnjnbpeniab
open Go.RowKit

theorem still_of_quiet {P : Program} {ops : Array Oper} {w0 : World} {Q : Act → Prop} : ∀ (l : List Oper) (a : Act), wpQuiet P ops (fun w' => w' = w0) Q l a → wpStill P ops w0 Q l a
  | [], _, h => h
  | o :: rest, a, h => by
    have ih := still_of_quiet (P := P) (ops := ops) (w0 := w0) (Q := Q) rest
    simp only [wpQuiet] at h
    simp only [wpStill]
    by_cases hw : Region.wanted o (yielded ops a.tmps) = true
    · rw [if_pos hw] at h ⊢
      obtain ⟨v, h1, h2⟩ := h
      have h3 := h1 w0 rfl
      unfold Oper.quietAt at h3
      unfold Oper.still
      generalize (execOp a.eval o).run P w0 = r at h3
      cases r with
      | ok n w' =>
        cases n <;> simp only [Oper.quietUpon] at h3 <;> simp only [Oper.stillUpon]
        case value u =>
          obtain ⟨e1, e2⟩ := h3
          subst e2
          exact ⟨e1, ih _ h2⟩
        case skip =>
          obtain ⟨e1, e2⟩ := h3
          subst e2
          exact ⟨e1, ih _ h2⟩
        case enter f args =>
          obtain ⟨e1, e2⟩ := h3
          exact ⟨e1, v, e2, ih _ h2⟩
      | halt x w' => simp only [Oper.quietUpon] at h3
    · rw [if_neg hw] at h ⊢
      exact ih _ h

/-- **The others by a quiet walk, then the tail.** -/
theorem region_quiet_tail {P : Program} {id : Nat} {Q : Exit → Act → World → Prop} {a : Act} {w : World} {l : List Oper} (n : Nat) (hm : P.follows .mixedOrders = true) (hB : Region.lexTailB .any l.toArray n = true)
    (h : wpQuiet P l.toArray (fun w' => w' = w.drew) (fun a' => wpList P l.toArray Q (l.drop n) a' w.drew) (l.take n) a) : (Code.region id l.toArray true).wp P Q a w :=
  wp_region_still_tail n hm hB (still_of_quiet _ _ h)

end Go.Proofs.Ytojfpnjnbpeniab

namespace Go.Proofs.Ytojfpnjnbpeniab
open Go.RowKit

attribute [local go_sem] Oper.semAt_some

/-- A function value that tells what an index is worth. -/
def WayFn (n : Nat) (P : Nat → Int) (w : World) (u : Value) : Prop := ∃ k cap, u = .func (.func k) #[] cap ∧ (∀ (args : Array Value) (w' : World), (callFunc k args).run Try.prog w' = .ok (.enter k args) w') ∧ ∀ w', Below w.heap.size w w' → ∀ i : Nat, i < n → Calls Try.prog k (#[] ++ #[.int .i64 (i : Int), .int .i64 (n : Int)] ++ cap) w' fun e w'' => e = .returned (.int .i64 (P i)) ∧ w' = w''
theorem oneI_dep (d i : Nat) : oneI (decide (i < d)) = depP d i := by unfold oneI depP; by_cases h : i < d <;> simp [h]
theorem oneI_las (n i : Nat) : oneI (decide (i = n - 1)) = lasP n i := by unfold oneI lasP; by_cases h : i = n - 1 <;> simp [h]
theorem wayFn_depth {n d g : Nat} {w : World} (hc : w.cell? ⟨g, 0, none⟩ = some (.int .i64 (d : Int))) (hg : g < w.heap.size) : WayFn n (depP d) w (wayD g) :=
  ⟨_, _, rfl, Go.Proofs.enters_of Try.func33 (by kernel_rfl) rfl, fun w' hb i hi => (wayDepth_any g d i n w' ((hb.cell (p := ⟨g, 0, none⟩) hg).trans hc)).mono (by rintro e w2 ⟨rfl, rfl⟩; exact ⟨by rw [oneI_dep], rfl⟩)⟩
theorem wayFn_place {n : Nat} {w : World} (hn : n ≤ 5) : WayFn n (plaP n) w (.func (.func 30) #[] #[]) :=
  ⟨_, _, rfl, Go.Proofs.enters_of Try.func30 (by kernel_rfl) rfl, fun w' _ i hi => wayPlace_any i n w' hi hn⟩
theorem wayFn_last {n : Nat} {w : World} (hn : n ≤ 5) : WayFn n (lasP n) w (.func (.func 31) #[] #[]) :=
  ⟨_, _, rfl, Go.Proofs.enters_of Try.func31 (by kernel_rfl) rfl, fun w' _ i hi => (wayLast_any i n w' hi hn).mono (by rintro e w2 ⟨rfl, rfl⟩; exact ⟨by rw [oneI_las], rfl⟩)⟩
/-- The table's way of a number. -/
theorem way_at {n number : Nat} {G : Nat → Nat} {w : World} (hn : n ≤ 5) (hk : number ≤ 7) (hG : ∀ j, j < 6 → w.cell? ⟨G j, 0, none⟩ = some (.int .i64 (j : Int)) ∧ G j < w.heap.size) :
    ∃ u, #[wayD (G 0), wayD (G 1), wayD (G 2), wayD (G 3), wayD (G 4), wayD (G 5), .func (.func 30) #[] #[], .func (.func 31) #[] #[]][number]? = some u ∧ WayFn n (wayP n number) w u := by
  have hd : ∀ j, j < 6 → WayFn n (wayP n j) w (wayD (G j)) := fun j hj => by
    have := wayFn_depth (n := n) (hG j hj).1 (hG j hj).2
    have e : wayP n j = depP j := by funext i; unfold wayP; rw [if_pos hj]
    rw [e]; exact this
  have : number = 0 ∨ number = 1 ∨ number = 2 ∨ number = 3 ∨ number = 4 ∨ number = 5 ∨ number = 6 ∨ number = 7 := by omega
  rcases this with rfl | rfl | rfl | rfl | rfl | rfl | rfl | rfl
  · exact ⟨_, rfl, hd 0 (by omega)⟩
  · exact ⟨_, rfl, hd 1 (by omega)⟩
  · exact ⟨_, rfl, hd 2 (by omega)⟩
  · exact ⟨_, rfl, hd 3 (by omega)⟩
  · exact ⟨_, rfl, hd 4 (by omega)⟩
  · exact ⟨_, rfl, hd 5 (by omega)⟩
  · exact ⟨_, rfl, wayFn_place hn⟩
  · exact ⟨_, rfl, wayFn_last hn⟩

theorem index_way {arr : Array Value} {number : Nat} {u : Value} (hk : number ≤ 7) (hu : arr[number]? = some u) (w : World) : (Instr.index 49 (.agg arr) (.int .i64 (number : Int))).run Try.prog w = .ok u w := by
  have h1 : (0 : Int) ≤ (number : Int) ∧ (number : Int) < 8 := by omega
  simp [Instr.index, go_sem, h1, hu]
  intro h; omega

set_option maxRecDepth 100000 in
set_option maxHeartbeats 4000000 in
/-- **pointCounts**. -/
theorem points_as (a : Option Addr) (len cap : Nat) (ps : List Pl) (n : Int) (number : Nat) (v : Bool) (w : World) (h : IsPiles w a len cap ps) (hs : Small ps) (hv : fitsB ps n = v) (hk : number ≤ 7) :
    Calls Try.prog 17 #[.slice a len cap, .int .i64 n, .int .i64 (number : Int)] w (Told w (ptR number ps n) v) := by
  obtain ⟨i0, hi, hz0, hz1, hz2⟩ := info_parts int_info
  have HI := Lib.hid h
  have HS := Lib.hid hs
  have H1 := Lib.hid h.1
  clear h hs
  cases v
  · have HV := Lib.hid hv; clear hv
    have HR := Lib.hid (ptR_no (number := number) HV.out)
    go_enter Try.func17, Try.ntmps17
    go_wp2_with fail
    refine (implFits_as _ len cap ps n false _ HI.out HS.out HV.out).mono ?_
    rintro e1 w1 ⟨rfl, hb1⟩
    go_wp2
    go_ret2
    rw [Told, HR.out]
    exact ⟨none, 0, rfl, World.ownsRow_nil _ _ _ _, hb1⟩
  · obtain ⟨hp, hn1, hn5, -⟩ := fits_parts hv
    obtain ⟨N, rfl⟩ : ∃ N : Nat, n = (N : Int) := ⟨n.toNat, by omega⟩
    have hl12 : len ≤ 12 := by have := (pilesB_pos hp).2.2.2.2; rw [H1.out] at this; exact this
    have HR := Lib.hid (ptR_yes (number := number) hv)
    have HV := Lib.hid hv
    have HP := Lib.hid hp
    clear hv hp
    have hN1 : 1 ≤ N := by omega
    have hN5 : N ≤ 5 := by omega
    go_enter Try.func17, Try.ntmps17
    go_wp2_with fail
    refine (implFits_as _ len cap ps (N : Int) true _ HI.out HS.out HV.out).mono ?_
    rintro e1 w1 ⟨rfl, hb1⟩
    have B1 := Lib.hid hb1
    clear hb1
    go_wp2_with fail
    refine (ways_any _).mono ?_
    rintro e2 w2 ⟨G, rfl, hG, hb2⟩
    obtain ⟨u, hu, hw⟩ := way_at (n := N) hN5 hk (fun j hj => ⟨(hG j hj).1, (hG j hj).2.2⟩)
    have B2 := Lib.hid (B1.out.trans (hb2.mono B1.out.size))
    have HW := Lib.hid hw
    clear hG hb2 hw B1
    generalize #[wayD (G 0), wayD (G 1), wayD (G 2), wayD (G 3), wayD (G 4), wayD (G 5), Value.func (.func 30) #[] #[], Value.func (.func 31) #[] #[]] = arr at hu ⊢
    have hix := index_way hk hu w2
    obtain ⟨kf, cf, rfl, hent, hcl⟩ := HW.out
    have HC := Lib.hid hcl
    clear hcl HW hu
    go_wp2_with (at_make; refine wpList_make_full _ rfl _ _ 24 rfl w2.heap.size 3 i0 (.int .i64 0) 1 Try.underlying24 hi hz0 hz1 .i64 .i64 _ _ N rfl rfl rfl rfl (by rw [hz2]; omega) (by unfold maxLen; omega) (Nat.le_refl _) ?_; intro w3 hown hgrow)
    obtain ⟨g, hg⟩ : ∃ g, w2.heap.size = g := ⟨_, rfl⟩
    have hgw : w.heap.size ≤ g := by rw [← hg]; exact B2.out.size
    have hb3 : Below g w2 w3 := hg ▸ (Below.refl _ w2).grown hgrow (Nat.le_refl _) (fun k e => by cases e)
    rw [hg] at hown ⊢
    have O3 : Hid (w3.ownsRow g 3 1 (.slice (some ⟨g, 0, none⟩) N N) N ((ptL (wayP N number) (ps.take 0) N).map (Value.int .i64))) := by
      unfold Hid; rw [List.take_zero, ptL_nil, ← zeros_made]
      exact hown
    have HG := Lib.hid hg
    clear hown hgrow hg hix hi hz0 hz1 hz2
    go_wp2
    go_loopw [11, 12, 13, 14, 15, 27, 39] (fun _ _ _ _ _ iv _ wr => ∃ i : Nat, i ≤ len ∧ iv = .int .i64 (i : Int) ∧ Hid (wr.ownsRow g 3 1 (.slice (some ⟨g, 0, none⟩) N N) N ((ptL (wayP N number) (ps.take i) N).map (Value.int .i64))) ∧ Below g w2 wr) (fun _ _ _ _ _ iv _ _ => len - (intOf iv).toNat)
    case atStart => exact ⟨0, Nat.zero_le _, rfl, O3, hb3⟩
    case round =>
      clear O3 hb3
      obtain ⟨i, hil, rfl, hO, hB⟩ := hrel
      have hgr : g ≤ wr.heap.size := by have := hB.size; rw [HG.out] at this; exact this
      by_cases hlt : i < len
      · have hBw : Below w.heap.size w wr := B2.out.trans (hB.mono hgw)
        obtain ⟨b, off, rfl, hb, c0, c1⟩ := (HI.out.below hBw).at_text hlt
        obtain ⟨t, ht⟩ : ∃ t, tAt ps i = t := ⟨_, rfl⟩
        obtain ⟨m, hm⟩ : ∃ m, mAt ps i = m := ⟨_, rfl⟩
        obtain ⟨pl, hpl⟩ : ∃ pl, parseL t = pl := ⟨_, rfl⟩
        have hst : t.size ≤ 1048600 := by rw [← ht]; exact HS.out i
        have hm99 : 0 ≤ m ∧ m ≤ 99 := by rw [← hm]; exact mAt_valid HP.out i
        have hips : i < ps.length := by rw [H1.out]; exact hlt
        have hvN : validB pl (N : Int) = true := by rw [← hpl, ← ht]; exact (fits_parts HV.out).2.2.2 i hips
        have hlN : pl.length ≤ N := by have := vB_short hvN; omega
        have HOK : Hid (validB (nums t) 5 = true) := by
          have := (pilesB_pos HP.out).2.2.2.1 _ (pile_mem (ps := ps) (k := i) hips)
          unfold Hid; rw [← ht]; exact this
        have HNX : Hid (addTo (wayP N number) m pl pl.length (ptL (wayP N number) (ps.take i) N) = ptL (wayP N number) (ps.take (i + 1)) N) := by
          have := ptL_next (P := wayP N number) (n := N) hips (by rw [ht, hpl]; exact hvN)
          rw [ht, hm, hpl] at this; exact this
        have HBD : Hid (∀ x : Nat, 0 ≤ (ptL (wayP N number) (ps.take i) N)[x]?.getD 0 ∧ (ptL (wayP N number) (ps.take i) N)[x]?.getD 0 ≤ 5940) := fun x => ptL_bound (wayP_bound hN5) HV.out i x
        have HZ : Hid (∀ z ∈ pl, 0 ≤ z ∧ z < (N : Int)) := (vB_mem hvN).2.2
        obtain ⟨cs, hcs⟩ : ∃ cs, ptL (wayP N number) (ps.take i) N = cs := ⟨_, rfl⟩
        have hcl : cs.length = N := by rw [← hcs]; exact ptL_length _ _ _
        rw [hcs] at hO HNX HBD
        rw [ht] at c0
        rw [hm] at c1
        have HPL := Lib.hid hpl
        clear ht hpl hm hBw hcs hips hvN
        go_wp2_with fail
        refine (implParse_as t pl true _ hst HPL.out HOK.out).mono ?_
        rintro e w4 ⟨a4, c4, rfl, ho4, hb4⟩
        have hBx : Below wr.heap.size wr w4 := ((Below.refl _ _).alloc (Nat.le_refl _) _).trans (hb4.mono (by simp))
        have cm : w4.cell? ⟨wr.heap.size, 1, none⟩ = some (.int .i64 m) := (hb4.cell (p := ⟨wr.heap.size, 1, none⟩) (by simp)).trans ((World.cell?_alloc_mark wr _ _ (0, 0) 1).trans rfl)
        have hbm : wr.heap.size < w4.heap.size := by have := hb4.size; simp at this; omega
        have I4' : w4.ownsRow (wr.heap.size + 1) 3 1 (.slice a4 pl.length c4) pl.length (pl.map (Value.int .i64)) := by simpa using ho4
        have I4 := Lib.hid I4'
        clear I4'
        have hO4 : Hid (w4.ownsRow g 3 1 (.slice (some ⟨g, 0, none⟩) N N) N ((addTo (wayP N number) m pl 0 cs).map (Value.int .i64))) := owns_under hO.out hBx
        have hgl : g < wr.heap.size := (hO.out.lt g rfl).2
        have B4 : Below g w2 w4 := hB.trans (hBx.mono hgr)
        obtain ⟨gp, hgp⟩ : ∃ gp, wr.heap.size = gp := ⟨_, rfl⟩
        rw [hgp] at cm hbm hgl I4 ⊢
        clear ho4 hb4 hBx hO hB c0 c1 hgp hgr
        go_wp2
        go_loopw [14, 15, 39] (fun _ _ jv wr => ∃ j : Nat, j ≤ pl.length ∧ jv = .int .i64 (j : Int) ∧ Hid (wr.ownsRow g 3 1 (.slice (some ⟨g, 0, none⟩) N N) N ((addTo (wayP N number) m pl j cs).map (Value.int .i64))) ∧ Hid (wr.ownsRow (gp + 1) 3 1 (.slice a4 pl.length c4) pl.length (pl.map (Value.int .i64))) ∧ Hid (wr.cell? ⟨gp, 1, none⟩ = some (.int .i64 m)) ∧ gp < wr.heap.size ∧ Below g w2 wr) (fun _ _ jv _ => pl.length - (intOf jv).toNat)
        case atStart => exact ⟨0, Nat.zero_le _, rfl, hO4, I4, cm, hbm, B4⟩
        case round =>
          clear hO4 I4 cm hbm B4
          rename World => wx
          obtain ⟨j, hjl, rfl, hO, hI, hm1, hbm, hB⟩ := hrel
          by_cases hlj : j < pl.length
          · obtain ⟨b4, o4, rfl, -, hc4⟩ := (IsInts.of_owned hI.out (by omega)).2.2.2 (by omega)
            have hz := hc4 j hlj
            obtain ⟨z, hzz⟩ : ∃ z, pl[j]?.getD 0 = z := ⟨_, rfl⟩
            rw [hzz] at hz
            have hzr : 0 ≤ z ∧ z < (N : Int) := HZ.out z (by rw [← hzz]; simp [hlj])
            obtain ⟨x, rfl⟩ := Int.eq_ofNat_of_zero_le hzr.1
            have hxN : x < N := by omega
            obtain ⟨cv, hcv⟩ : ∃ cv, (addTo (wayP N number) m pl j cs)[x]?.getD 0 = cv := ⟨_, rfl⟩
            have hcvb : 0 ≤ cv ∧ cv ≤ 8415 := by
              have := addTo_bound (zs := pl) hm99 (wayP_bound (number := number) hN5) HBD.out j (by omega) x
              rw [hcv] at this; omega
            obtain ⟨q, hq⟩ : ∃ q, wayP N number j = q := ⟨_, rfl⟩
            have hqb : 0 ≤ q ∧ q ≤ 5 := by rw [← hq]; exact wayP_bound hN5 j (by omega)
            have hmq : 0 ≤ m * q ∧ m * q ≤ 495 := ⟨Int.mul_nonneg hm99.1 hqb.1, Int.le_trans (Int.mul_le_mul hm99.2 hqb.2 hqb.1 (by omega)) (by omega)⟩
            have hcell : wx.drew.cell? ⟨g, x, none⟩ = some (.int .i64 cv) := by
              have h1 : wx.drew.cell? ⟨g, x, none⟩ = wx.cell? ⟨g, x, none⟩ := rfl
              rw [h1, hO.out.cellAt x (by omega), ← hcv]
              have : x < (addTo (wayP N number) m pl j cs).length := by rw [addTo_length]; omega
              simp [this]
            have hfz : wx.drew.frozen? ⟨g, x, none⟩ = false := hO.out.frozenAt x
            have O7 : Hid ((wx.drew.setCell ⟨g, x, none⟩ (.int .i64 (cv + m * q))).ownsRow g 3 1 (.slice (some ⟨g, 0, none⟩) N N) N ((addTo (wayP N number) m pl (j + 1) cs).map (Value.int .i64))) := by
              have h1 := (hO.out.stored x (.int .i64 (cv + m * q))).1
              unfold Hid
              rw [addTo_succ, hzz, Int.toNat_natCast, hcv, hq, ← map_set_int]
              exact h1
            have I7 : Hid ((wx.drew.setCell ⟨g, x, none⟩ (.int .i64 (cv + m * q))).ownsRow (gp + 1) 3 1 (.slice (some ⟨b4, o4, none⟩) pl.length c4) pl.length (pl.map (Value.int .i64))) := by
              refine World.ownsRow.kept hI.out (row := some g) (w' := wx.drew.setCell ⟨g, x, none⟩ (.int .i64 (cv + m * q))) ⟨rfl, rfl, rfl, by simp [World.setCell], fun k hk hne => Below.heap_setCell _ _ _ _ (by show k ≠ g; intro e; exact hne (by rw [e]))⟩ ?_
              cases hbl : (Value.slice (some ⟨b4, o4, none⟩) pl.length c4).ownBlock with
              | none => exact .inl rfl
              | some jj => right; intro e; injection e with e; have := (hI.out.lt jj hbl).1; omega
            have M7 : Hid ((wx.drew.setCell ⟨g, x, none⟩ (.int .i64 (cv + m * q))).cell? ⟨gp, 1, none⟩ = some (.int .i64 m)) := by
              unfold Hid
              rw [World.cell?_setCell_other _ _ _ _ (by intro e; injection e with e _; omega)]
              exact hm1.out
            have B7 : Below g w2 (wx.drew.setCell ⟨g, x, none⟩ (.int .i64 (cv + m * q))) := (hB.drew).setCell (p := ⟨g, x, none⟩) (Nat.le_refl _) _
            have G7 : gp < (wx.drew.setCell ⟨g, x, none⟩ (.int .i64 (cv + m * q))).heap.size := by simp [World.setCell]; exact hbm
            have hcc := HC.out wx.drew (by rw [HG.out]; exact hB.drew) j (by omega)
            rw [hq] at hcc
            have HCC := Lib.hid (hcc.mono (R' := fun e w' => e = .returned (.int .i64 q) ∧ w' = wx.drew) (by rintro e w5 ⟨rfl, rfl⟩; exact ⟨rfl, rfl⟩))
            have hm2 := hm1.out
            have hxi : (x : Int) < (N : Int) := by omega
            have hji : (j : Int) < (pl.length : Int) := by omega
            clear hc4 hcv hq hzz hcc hO hI hm1
            go_wp2_with fail
            refine region_quiet_tail 12 (by kernel_rfl) (by kernel_rfl) ?_
            simp only [List.take_succ_cons, List.take_zero, List.drop_succ_cons, List.drop_zero]
            repeat (first | go_big_quiet_step (fail) | (go_big_quiet_want; go_big_quiet_op; refine ⟨_, HCC.out, ?_⟩; go_big_quiet_on))
            refine wpQuiet_nil ?_
            generalize wx.drew = w6 at O7 I7 M7 B7 G7 hcell hfz ⊢
            go_wp2
            go_roundw
            case rel => exact ⟨j + 1, by omega, by go_num, O7, I7, M7, G7, B7⟩
            case measure => simp [intOf]; omega
          · obtain rfl : j = pl.length := by omega
            have hO9 := hO.out
            rw [HNX.out] at hO9
            have hO8 := Lib.hid hO9
            clear hO9
            go_wp2
            go_roundw
            case rel => exact ⟨i + 1, by omega, by go_num, hO8, hB⟩
            case measure => simp [intOf]; omega
      · obtain rfl : i = len := by omega
        have hO9 : Hid (wr.ownsRow g 3 1 (.slice (some ⟨g, 0, none⟩) N N) N ((ptL (wayP N number) ps N).map (Value.int .i64))) := by
          have := hO.out; rw [List.take_of_length_le (by rw [H1.out]; exact Nat.le_refl _)] at this; exact this
        have hlen : (ptL (wayP N number) ps N).length = N := ptL_length _ _ _
        go_wp2
        go_ret2
        rw [Told, HR.out, hlen]
        exact ⟨some ⟨g, 0, none⟩, N, rfl, hO9.out.mono hgw, B2.out.trans (hB.mono hgw)⟩

set_option maxRecDepth 100000 in
set_option maxHeartbeats 2000000 in
/-- **impl.LastCounts**. -/
theorem implLast_as (a : Option Addr) (len cap : Nat) (ps : List Pl) (n : Int) (v : Bool) (l : List Int) (w : World) (h : IsPiles w a len cap ps) (hs : Small ps) (hv : fitsB ps n = v) (hl : lasR ps n = l) :
    Calls Try.prog 7 #[.slice a len cap, .int .i64 n] w (Told w l v) := by
  rw [lasR_pts] at hl
  have HI := Lib.hid h
  have HS := Lib.hid hs
  have HV := Lib.hid hv
  have HL := Lib.hid hl
  clear h hs hv hl
  go_enter Try.func7, Try.ntmps7
  go_wp2_with fail
  refine (points_as _ _ _ ps n 7 v _ HI.out HS.out HV.out (by omega)).mono ?_
  rw [HL.out]
  rintro e1 w1 ⟨a1, c1, rfl, ho, hb⟩
  go_wp2
  go_ret2
  exact ⟨a1, c1, rfl, ho, hb⟩

end Go.Proofs.Ytojfpnjnbpeniab
