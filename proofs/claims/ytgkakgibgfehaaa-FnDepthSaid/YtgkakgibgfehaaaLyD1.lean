/-
  What XDepthLW need besides: of XOpen, XPtW, XPtX, XFirstP, XPlurP, XDepthP, XPtsP, XPtR, XMergeS, XPtI, XPtS, XLotQ, XPtT, XPtE, XPlurI, XDrawPd, XDrawX, XDrawLo, XDrawDp, XFracP, XChoI, XSumO.
-/
import Derived.Test.YtgkakgibgfehaaaSh3
import Derived.Test.YtgkakgibgfehaaaSh7
import Derived.Test.YtgkakgibgfehaaaSh26
import Derived.Test.YtgkakgibgfehaaaFaD
import Derived.ProofKit
import Derived.OpenShut
import Derived.ShutString
import Derived.ChangeOld
import Derived.Below
import Derived.Deep.Grids
import Derived.Laws.EntriesVeiled
import Derived.Shelf.Abstract
import Derived.StillTailTactics
import Derived.Maps.RangeWalk
import Derived.Deep.RegionLaw
import Derived.Deep.AppendLies
import Derived.Deep.Onto
namespace Go.Proofs.Ytgkakgibgfehaaa
open Go.RowKit

theorem IsBytes.below {w w' : World} {a : Option Addr} {len : Nat} {zs : List Int} (h : IsBytes w a len zs) (hb : Below w.heap.size w w') : IsBytes w' a len zs := by
  obtain ⟨h1, h2, h4⟩ := h
  refine ⟨h1, h2, fun hl => ?_⟩
  obtain ⟨b, off, e, hlt, hc⟩ := h4 hl
  exact ⟨b, off, e, Nat.lt_of_lt_of_le hlt hb.size, fun j hj => (hb.cell (p := ⟨b, off + j, none⟩) hlt).trans (hc j hj)⟩

end Go.Proofs.Ytgkakgibgfehaaa

namespace Go.Proofs.Ytgkakgibgfehaaa
open Go.RowKit

attribute [local go_sem] Oper.semAt_some

/-- A point, if something is true. -/
def oneI (b : Bool) : Int := if b = true then 1 else 0
theorem onePoint_any (b : Bool) (w : World) : Calls Tq.prog 129 #[.bool b] w fun e w' => e = .returned (.int .i64 (oneI b)) ∧ w = w' := by
  cases b
  · go_enter Tq.func129, Tq.ntmps129
    go_wp2
    go_ret
    exact ⟨rfl, rfl⟩
  · go_enter Tq.func129, Tq.ntmps129
    go_wp2
    go_ret
    exact ⟨rfl, rfl⟩
theorem wayPlace_any (i n : Nat) (w : World) (hi : i < n) (hn : n ≤ 5) : Calls Tq.prog 127 #[.int .i64 (i : Int), .int .i64 (n : Int)] w fun e w' => e = .returned (.int .i64 ((n : Int) - 1 - (i : Int))) ∧ w = w' := by
  go_enter Tq.func127, Tq.ntmps127
  go_wp2
  go_ret
  exact ⟨rfl, rfl⟩
theorem wayLast_any (i n : Nat) (w : World) (hi : i < n) (hn : n ≤ 5) : Calls Tq.prog 128 #[.int .i64 (i : Int), .int .i64 (n : Int)] w fun e w' => e = .returned (.int .i64 (oneI (decide (i = n - 1)))) ∧ w = w' := by
  obtain ⟨v, hv⟩ : ∃ v, ((i : Int) == (n : Int) - 1) = v := ⟨_, rfl⟩
  have HV : Hid (v = decide (i = n - 1)) := by
    rw [Hid, ← hv]
    by_cases e : i = n - 1
    · rw [decide_eq_true e]; exact beq_iff_eq.2 (by omega)
    · rw [decide_eq_false e]; exact beq_eq_false_iff_ne.2 (by omega)
  go_enter Tq.func128, Tq.ntmps128
  go_wp2_with fail
  refine (onePoint_any v _).mono ?_
  rintro e w1 ⟨rfl, rfl⟩
  go_wp2
  go_ret
  exact ⟨ret_int (by rw [HV.out]), rfl⟩
theorem wayDepth_any (g d i n : Nat) (w : World) (hc : w.cell? ⟨g, 0, none⟩ = some (.int .i64 (d : Int))) : Calls Tq.prog 130 #[.int .i64 (i : Int), .int .i64 (n : Int), .pointer (some ⟨g, 0, none⟩)] w fun e w' => e = .returned (.int .i64 (oneI (decide (i < d)))) ∧ w = w' := by
  obtain ⟨v, hv⟩ : ∃ v, decide (i < d) = v := ⟨_, rfl⟩
  have HV : Hid (v = decide (i < d)) := hv.symm
  go_enter Tq.func130, Tq.ntmps130
  go_wp2_with fail
  refine (onePoint_any v _).mono ?_
  rintro e w1 ⟨rfl, rfl⟩
  go_wp2
  go_ret
  exact ⟨ret_int (by rw [HV.out]), rfl⟩

end Go.Proofs.Ytgkakgibgfehaaa

namespace Go.Proofs.Ytgkakgibgfehaaa
open Go.RowKit

attribute [local go_sem] Oper.semAt_some

/-- The way of a depth. -/
def wayD (g : Nat) : Value := .func (.func 130) #[] #[.pointer (some ⟨g, 0, none⟩)]
/-- The table with the first d depths. -/
def slotV (G : Nat → Nat) (d j : Nat) : Value := if j < d then wayD (G j) else if j = 6 then .func (.func 127) #[] #[] else if j = 7 then .func (.func 128) #[] #[] else .nilFunc
structure Ways (B b d : Nat) (G : Nat → Nat) (w : World) : Prop where
  lt : b < w.heap.size
  cell : ∀ j, j < 8 → w.cell? ⟨b, j, none⟩ = some (slotV G d j)
  free : ∀ j, w.frozen? ⟨b, j, none⟩ = false
  own : ∀ j, j < d → w.cell? ⟨G j, 0, none⟩ = some (.int .i64 (j : Int)) ∧ B ≤ G j ∧ G j < w.heap.size ∧ b < G j
theorem Ways.step {B b d : Nat} {G : Nat → Nat} {w : World} (h : Ways B b d G w) (hd : d < 6) (hB : B ≤ w.heap.size) (t : TypeId) :
    Ways B b (d + 1) (fun j => if j = d then w.heap.size else G j) ((w.alloc (.cells #[.int .i64 (d : Int)] t)).setCell ⟨b, d, none⟩ (wayD w.heap.size)) := by
  have hb := h.lt
  have hn : (w.alloc (.cells #[.int .i64 (d : Int)] t)).heap.size = w.heap.size + 1 := by simp
  have hold : ∀ (p : Addr), p.block < w.heap.size → (w.alloc (.cells #[.int .i64 (d : Int)] t)).cell? p = w.cell? p := fun p hp => ((Below.refl w.heap.size w).alloc (Nat.le_refl _) _).cell hp
  have hfold : ∀ (p : Addr), p.block < w.heap.size → (w.alloc (.cells #[.int .i64 (d : Int)] t)).frozen? p = w.frozen? p := fun p hp => ((Below.refl w.heap.size w).alloc (Nat.le_refl _) _).frozen hp
  refine ⟨by simp [World.setCell]; omega, fun j hj => ?_, fun j => ?_, fun j hj => ?_⟩
  · by_cases e : j = d
    · subst e
      rw [World.cell?_setCell_same' _ _ _ (by rw [hold _ hb, h.cell j hj]; rfl)]
      simp [slotV]
    · rw [World.cell?_setCell_other _ _ _ _ (by intro q; injection q with _ q; omega), hold _ hb, h.cell j hj]
      unfold slotV
      by_cases g : j < d
      · rw [if_pos g, if_pos (show j < d + 1 by omega)]; simp only [if_neg e]
      · rw [if_neg g, if_neg (show ¬ j < d + 1 by omega)]
  · rw [World.frozen?_setCell, hfold _ hb]; exact h.free j
  · by_cases e : j = d
    · subst e
      simp only [if_true]
      refine ⟨?_, hB, by simp [World.setCell], hb⟩
      rw [World.cell?_setCell_other _ _ _ _ (by intro q; injection q with q _; omega)]
      exact (World.cell?_alloc_mark w _ t (0, 0) 0).trans rfl
    · obtain ⟨h1, h2, h3, h4⟩ := h.own j (by omega)
      rw [if_neg e]
      refine ⟨?_, h2, by simp [World.setCell]; omega, h4⟩
      rw [World.cell?_setCell_other _ _ _ _ (by intro q; injection q with q _; omega), hold _ h3]
      exact h1

theorem ways_start (w : World) (t : TypeId) : Ways w.heap.size (w.heap.size + 1) 0 (fun _ => 0) ((w.alloc (.cells #[.nilFunc, .nilFunc, .nilFunc, .nilFunc, .nilFunc, .nilFunc, .nilFunc, .nilFunc] t)).alloc (.cells #[.nilFunc, .nilFunc, .nilFunc, .nilFunc, .nilFunc, .nilFunc, .func (.func 127) #[] #[], .func (.func 128) #[] #[]] t)) := by
  have hn : (w.alloc (.cells #[.nilFunc, .nilFunc, .nilFunc, .nilFunc, .nilFunc, .nilFunc, .nilFunc, .nilFunc] t)).heap.size = w.heap.size + 1 := by simp
  refine ⟨by simp, fun j hj => ?_, fun j => ?_, fun j hj => by omega⟩
  · rw [← hn]
    refine (World.cell?_alloc_mark _ _ t (0, 0) j).trans ?_
    have : j = 0 ∨ j = 1 ∨ j = 2 ∨ j = 3 ∨ j = 4 ∨ j = 5 ∨ j = 6 ∨ j = 7 := by omega
    rcases this with rfl | rfl | rfl | rfl | rfl | rfl | rfl | rfl <;> rfl
  · rw [← hn]
    exact (World.frozen?_alloc_mark _ _ t 0 0 j).trans rfl
/-- The result's block. -/
def Res8 (b : Nat) (w : World) : Prop := b < w.heap.size ∧ (∀ j, j < 8 → w.cell? ⟨b, j, none⟩ = some .nilFunc) ∧ ∀ j, w.frozen? ⟨b, j, none⟩ = false
theorem res_start (w : World) (t : TypeId) (o : Obj) : Res8 w.heap.size ((w.alloc (.cells #[.nilFunc, .nilFunc, .nilFunc, .nilFunc, .nilFunc, .nilFunc, .nilFunc, .nilFunc] t)).alloc o) := by
  have hb : Below (w.heap.size + 1) (w.alloc (.cells #[.nilFunc, .nilFunc, .nilFunc, .nilFunc, .nilFunc, .nilFunc, .nilFunc, .nilFunc] t)) ((w.alloc (.cells #[.nilFunc, .nilFunc, .nilFunc, .nilFunc, .nilFunc, .nilFunc, .nilFunc, .nilFunc] t)).alloc o) := (Below.refl _ _).alloc (by simp) _
  refine ⟨by simp; omega, fun j hj => ?_, fun j => ?_⟩
  · refine (hb.cell (p := ⟨w.heap.size, j, none⟩) (Nat.lt_succ_self _)).trans ((World.cell?_alloc_mark _ _ t (0, 0) j).trans ?_)
    have : j = 0 ∨ j = 1 ∨ j = 2 ∨ j = 3 ∨ j = 4 ∨ j = 5 ∨ j = 6 ∨ j = 7 := by omega
    rcases this with rfl | rfl | rfl | rfl | rfl | rfl | rfl | rfl <;> rfl
  · exact (hb.frozen (p := ⟨w.heap.size, j, none⟩) (Nat.lt_succ_self _)).trans ((World.frozen?_alloc_mark _ _ t 0 0 j).trans rfl)
theorem Res8.step {b c d : Nat} {w : World} (h : Res8 b w) (hbc : b ≠ c) (o : Obj) (v : Value) : Res8 b ((w.alloc o).setCell ⟨c, d, none⟩ v) := by
  have hb : Below w.heap.size w (w.alloc o) := (Below.refl _ _).alloc (Nat.le_refl _) _
  refine ⟨by simp [World.setCell]; have := h.1; omega, fun j hj => ?_, fun j => ?_⟩
  · rw [World.cell?_setCell_other _ _ _ _ (by intro q; injection q with q _; exact hbc q.symm)]
    exact (hb.cell (p := ⟨b, j, none⟩) h.1).trans (h.2.1 j hj)
  · rw [World.frozen?_setCell]; exact (hb.frozen (p := ⟨b, j, none⟩) h.1).trans (h.2.2 j)

set_option maxRecDepth 100000 in
set_option maxHeartbeats 2000000 in
/-- **waysToCount**. -/
theorem ways_any (w : World) : Calls Tq.prog 98 #[] w fun e w' => ∃ G : Nat → Nat, e = .returned (.agg #[wayD (G 0), wayD (G 1), wayD (G 2), wayD (G 3), wayD (G 4), wayD (G 5), .func (.func 127) #[] #[], .func (.func 128) #[] #[]]) ∧
    (∀ j, j < 6 → w'.cell? ⟨G j, 0, none⟩ = some (.int .i64 (j : Int)) ∧ w.heap.size ≤ G j ∧ G j < w'.heap.size) ∧ Below w.heap.size w w' := by
  have hS := ways_start w 116
  have hR := res_start w 116 (.cells #[.nilFunc, .nilFunc, .nilFunc, .nilFunc, .nilFunc, .nilFunc, .func (.func 127) #[] #[], .func (.func 128) #[] #[]] 116)
  have HS := Lib.hid hS
  have HR := Lib.hid hR
  clear hS hR
  go_enter Tq.func98, Tq.ntmps98
  go_wp2
  go_loopw [2, 4] (fun _ dv wr => ∃ (d : Nat) (G : Nat → Nat), d ≤ 6 ∧ dv = .int .i64 (d : Int) ∧ Hid (Ways w.heap.size (w.heap.size + 1) d G wr) ∧ Hid (Res8 w.heap.size wr) ∧ Below w.heap.size w wr) (fun _ dv _ => 6 - (intOf dv).toNat)
  case atStart => exact ⟨0, fun _ => 0, by omega, rfl, HS, HR, ((Below.refl _ _).alloc (Nat.le_refl _) _).alloc (by simp) _⟩
  case round =>
    clear HS HR
    obtain ⟨d, G, hd, rfl, hW, hR, hB⟩ := hrel
    have hsz := hB.size
    by_cases hlt : d < 6
    · have hc := hW.out.cell d (by omega)
      have hf := hW.out.free d
      have hst := Lib.hid (hW.out.step hlt hsz 3)
      have hrs := Lib.hid (hR.out.step (c := w.heap.size + 1) (d := d) (by omega) (.cells #[.int .i64 (d : Int)] 3) (wayD wr.heap.size))
      have hbl := hW.out.lt
      have hb1 : Below w.heap.size w ((wr.alloc (.cells #[.int .i64 (d : Int)] 3)).setCell ⟨w.heap.size + 1, d, none⟩ (wayD wr.heap.size)) := (hB.alloc hsz _).setCell (p := ⟨w.heap.size + 1, d, none⟩) (by show w.heap.size ≤ w.heap.size + 1; omega) _
      have hbd : Below wr.heap.size wr (wr.alloc (.cells #[.int .i64 (d : Int)] 3)) := (Below.refl _ _).alloc (Nat.le_refl _) _
      have hc2 : (wr.alloc (.cells #[.int .i64 (d : Int)] 3)).cell? ⟨w.heap.size + 1, d, none⟩ = some (slotV G d d) := (hbd.cell (p := ⟨w.heap.size + 1, d, none⟩) hbl).trans hc
      have hf2 : (wr.alloc (.cells #[.int .i64 (d : Int)] 3)).frozen? ⟨w.heap.size + 1, d, none⟩ = false := (hbd.frozen (p := ⟨w.heap.size + 1, d, none⟩) hbl).trans hf
      have hdi : (d : Int) < 8 := by omega
      clear hc hf hbd
      obtain ⟨s0, hs0⟩ : ∃ s0, slotV G d d = s0 := ⟨_, rfl⟩
      rw [hs0] at hc2
      clear hs0
      have he : (wr.alloc (.cells #[.int .i64 (d : Int)] 3)).setCell ⟨w.heap.size + 1, d, none⟩ (wayD wr.heap.size) = (wr.setCell ⟨w.heap.size + 1, d, none⟩ (wayD wr.heap.size)).alloc (.cells #[.int .i64 (d : Int)] 3) := World.setCell_alloc_past _ _ _ _ hbl
      rw [he] at hst hrs hb1
      clear he
      go_wp2
      go_roundw
      case rel => exact ⟨d + 1, _, by omega, by go_num, hst, hrs, hb1⟩
      case measure => simp [intOf]; omega
    · obtain rfl : d = 6 := by omega
      have k0 := hW.out.cell 0 (by omega)
      have k1 := hW.out.cell 1 (by omega)
      have k2 := hW.out.cell 2 (by omega)
      have k3 := hW.out.cell 3 (by omega)
      have k4 := hW.out.cell 4 (by omega)
      have k5 := hW.out.cell 5 (by omega)
      have k6 := hW.out.cell 6 (by omega)
      have k7 := hW.out.cell 7 (by omega)
      simp only [slotV, wayD] at k0 k1 k2 k3 k4 k5 k6 k7
      have r0 := hR.out.2.1 0 (by omega)
      have r1 := hR.out.2.1 1 (by omega)
      have r2 := hR.out.2.1 2 (by omega)
      have r3 := hR.out.2.1 3 (by omega)
      have r4 := hR.out.2.1 4 (by omega)
      have r5 := hR.out.2.1 5 (by omega)
      have r6 := hR.out.2.1 6 (by omega)
      have r7 := hR.out.2.1 7 (by omega)
      have f0 := hR.out.2.2 0
      have f1 := hR.out.2.2 1
      have f2 := hR.out.2.2 2
      have f3 := hR.out.2.2 3
      have f4 := hR.out.2.2 4
      have f5 := hR.out.2.2 5
      have f6 := hR.out.2.2 6
      have f7 := hR.out.2.2 7
      have HO := Lib.hid hW.out.own
      clear hW hR
      go_wp2
      refine bodyPost_ret (v := .agg #[wayD (G 0), wayD (G 1), wayD (G 2), wayD (G 3), wayD (G 4), wayD (G 5), .func (.func 127) #[] #[], .func (.func 128) #[] #[]]) (by simp [results, go_sem, wayD, r0, r1, r2, r3, r4, r5, r6, r7]) rfl ?_
      have hset : ∀ (u : World) (o : Nat) (v : Value) (g : Nat), g ≠ w.heap.size → (u.setCell ⟨w.heap.size, o, none⟩ v).cell? ⟨g, 0, none⟩ = u.cell? ⟨g, 0, none⟩ := fun u o v g hg => World.cell?_setCell_other _ _ _ _ (by intro q; injection q with q _; exact hg q.symm)
      refine ⟨G, rfl, fun j hj => ?_, ?_⟩
      · obtain ⟨h1, h2, h3, h4⟩ := HO.out j hj
        refine ⟨?_, h2, by simpa [World.setCell] using h3⟩
        rw [hset _ _ _ _ (by omega), hset _ _ _ _ (by omega), hset _ _ _ _ (by omega), hset _ _ _ _ (by omega), hset _ _ _ _ (by omega), hset _ _ _ _ (by omega), hset _ _ _ _ (by omega), hset _ _ _ _ (by omega)]
        exact h1
      · exact (((((((hB.setCell (p := ⟨w.heap.size, 0, none⟩) (Nat.le_refl _) _).setCell (p := ⟨w.heap.size, 1, none⟩) (Nat.le_refl _) _).setCell (p := ⟨w.heap.size, 2, none⟩) (Nat.le_refl _) _).setCell (p := ⟨w.heap.size, 3, none⟩) (Nat.le_refl _) _).setCell (p := ⟨w.heap.size, 4, none⟩) (Nat.le_refl _) _).setCell (p := ⟨w.heap.size, 5, none⟩) (Nat.le_refl _) _).setCell (p := ⟨w.heap.size, 6, none⟩) (Nat.le_refl _) _).setCell (p := ⟨w.heap.size, 7, none⟩) (Nat.le_refl _) _

end Go.Proofs.Ytgkakgibgfehaaa

namespace Go.Proofs.Ytgkakgibgfehaaa

theorem firstL_none (zs : List Int) (n : Nat) : firstL zs (List.replicate n false) = zs.head?.getD (-1) := by
  cases zs with
  | nil => rfl
  | cons z t =>
    unfold firstL
    rw [if_neg (by rw [List.getElem?_replicate]; split <;> simp)]
    rfl

end Go.Proofs.Ytgkakgibgfehaaa

namespace Go.Proofs.Ytgkakgibgfehaaa

/-- Nobody has left. -/
def noneL (n : Nat) : List Bool := List.replicate n false
theorem noneL_length (n : Nat) : (noneL n).length = n := by simp [noneL]
def plurC (ps : List Pl) (n : Nat) : List Int := countsL ps (noneL n)
theorem plurC_length (ps : List Pl) (n : Nat) : (plurC ps n).length = n := by rw [plurC, countsL_length, noneL_length]
end Go.Proofs.Ytgkakgibgfehaaa

namespace Go.Proofs.Ytgkakgibgfehaaa

/-- Whether k is among the first d ones of a text. -/
def depF (d k : Nat) (t : ByteArray) : Int := if (k : Int) ∈ (parseL t).take d then 1 else 0
def depL (ps : List Pl) (n d : Nat) : List Int := (List.range n).map fun k => wsum (depF d k) ps
theorem depL_length (ps : List Pl) (n d : Nat) : (depL ps n d).length = n := by simp [depL]
theorem depL_at (ps : List Pl) (d : Nat) {n k : Nat} (h : k < n) : (depL ps n d)[k]?.getD 0 = wsum (depF d k) ps := by simp [depL, h]
theorem depF_high (d k : Nat) (t : ByteArray) : depF d k t ≤ 1 := by unfold depF; split <;> omega
theorem depL_most {ps : List Pl} (hp : ∀ p ∈ ps, 1 ≤ p.2) (d : Nat) {n k : Nat} (h : k < n) : (depL ps n d)[k]?.getD 0 ≤ sumL ps := by
  rw [depL_at ps d h]; exact wsum_most (fun _ _ => depF_high _ _ _) hp
/-- **A greater depth counts more.** -/
theorem depL_more {ps : List Pl} (hp : ∀ p ∈ ps, 1 ≤ p.2) {d e n k : Nat} (hde : d ≤ e) (h : k < n) : (depL ps n d)[k]?.getD 0 ≤ (depL ps n e)[k]?.getD 0 := by
  rw [depL_at ps d h, depL_at ps e h]
  refine wsum_le (fun p _ => ?_) hp
  unfold depF
  by_cases g : (k : Int) ∈ (parseL p.1).take d
  · rw [if_pos g, if_pos (List.mem_of_mem_take (i := d) (by rw [List.take_take, Nat.min_eq_left hde]; exact g))]
    exact Int.le_refl _
  · rw [if_neg g]; split <;> omega
theorem depL_zero (ps : List Pl) (n : Nat) : depL ps n 0 = List.replicate n 0 := by
  refine List.ext_getElem (by simp [depL]) (fun i h1 h2 => ?_)
  simp only [depL, List.getElem_map, List.getElem_range, List.getElem_replicate]
  rw [← wsum_zero ps]
  exact wsum_congr (fun p _ => by unfold depF; simp)
theorem depL_one (ps : List Pl) (n : Nat) : depL ps n 1 = plurC ps n := by
  refine List.ext_getElem (by rw [depL_length, plurC_length]) (fun i h1 h2 => ?_)
  simp only [depL, plurC, countsL, List.getElem_map, List.getElem_range]
  refine wsum_congr (fun p _ => ?_)
  unfold depF oneF
  rw [noneL, firstL_none]
  cases parseL p.1 with
  | nil => simp
  | cons z t =>
    by_cases e : z = (i : Int)
    · rw [if_pos (show (i : Int) ∈ (z :: t).take 1 by simp [e]), if_pos (show (z :: t).head?.getD (-1) = (i : Int) from e)]
    · rw [if_neg (show ¬ (i : Int) ∈ (z :: t).take 1 by simp only [List.take_succ_cons, List.take_zero, List.mem_singleton]; exact fun g => e g.symm), if_neg (show ¬ (z :: t).head?.getD (-1) = (i : Int) from e)]
end Go.Proofs.Ytgkakgibgfehaaa

namespace Go.Proofs.Ytgkakgibgfehaaa

/-- What a text gives to x, if the place i is worth P i. -/
def ptF (P : Nat → Int) (x : Nat) (t : ByteArray) : Int := if (x : Int) ∈ parseL t then P ((parseL t).idxOf (x : Int)) else 0
def ptL (P : Nat → Int) (ps : List Pl) (n : Nat) : List Int := (List.range n).map fun x => wsum (ptF P x) ps
theorem ptL_length (P : Nat → Int) (ps : List Pl) (n : Nat) : (ptL P ps n).length = n := by simp [ptL]
theorem ptL_at (P : Nat → Int) (ps : List Pl) {n x : Nat} (h : x < n) : (ptL P ps n)[x]?.getD 0 = wsum (ptF P x) ps := by simp [ptL, h]
theorem ptL_nil (P : Nat → Int) (n : Nat) : ptL P [] n = List.replicate n 0 := by
  refine List.ext_getElem (by simp [ptL]) (fun i h1 h2 => ?_)
  simp [ptL, wsum_nil]
/-- The counts after the first i names of a ballot. -/
def addTo (P : Nat → Int) (m : Int) (zs : List Int) : Nat → List Int → List Int
  | 0, cs => cs
  | i + 1, cs => (addTo P m zs i cs).set (zs[i]?.getD 0).toNat ((addTo P m zs i cs)[(zs[i]?.getD 0).toNat]?.getD 0 + m * P i)
theorem addTo_zero (P : Nat → Int) (m : Int) (zs cs : List Int) : addTo P m zs 0 cs = cs := rfl
theorem addTo_succ (P : Nat → Int) (m : Int) (zs : List Int) (i : Nat) (cs : List Int) : addTo P m zs (i + 1) cs = (addTo P m zs i cs).set (zs[i]?.getD 0).toNat ((addTo P m zs i cs)[(zs[i]?.getD 0).toNat]?.getD 0 + m * P i) := rfl
theorem addTo_length (P : Nat → Int) (m : Int) (zs : List Int) (i : Nat) (cs : List Int) : (addTo P m zs i cs).length = cs.length := by
  induction i with
  | zero => rfl
  | succ i ih => rw [addTo_succ, List.length_set, ih]
theorem addTo_at {P : Nat → Int} {m : Int} {zs : List Int} (hd : zs.Nodup) (hz : ∀ z ∈ zs, 0 ≤ z) (cs : List Int) {x : Nat} (hx : x < cs.length) : ∀ i, i ≤ zs.length → (addTo P m zs i cs)[x]?.getD 0 = cs[x]?.getD 0 + m * (if (x : Int) ∈ zs ∧ zs.idxOf (x : Int) < i then P (zs.idxOf (x : Int)) else 0)
  | 0, _ => by rw [if_neg (fun h => absurd h.2 (Nat.not_lt_zero _)), Int.mul_zero, Int.add_zero]; rfl
  | i + 1, hi => by
    have ih := addTo_at (P := P) (m := m) hd hz cs hx i (by omega)
    have hlt : i < zs.length := by omega
    have e : zs[i]?.getD 0 = zs[i] := by simp [hlt]
    have hz0 := hz _ (List.getElem_mem hlt)
    have hix : zs.idxOf zs[i] = i := hd.idxOf_getElem i hlt
    rw [addTo_succ, e]
    by_cases g : zs[i].toNat = x
    · have gx : zs[i] = (x : Int) := by omega
      have hin : (x : Int) ∈ zs := by rw [← gx]; exact List.getElem_mem hlt
      rw [gx] at hix
      rw [g, List.getElem?_set_self (by rw [addTo_length]; exact hx)]
      rw [ih, hix, if_neg (fun h => absurd h.2 (Nat.lt_irrefl _)), if_pos ⟨hin, Nat.lt_succ_self _⟩]
      simp
    · rw [List.getElem?_set_ne g, ih]
      by_cases h : (x : Int) ∈ zs
      · have hne : zs.idxOf (x : Int) ≠ i := by
          intro e2
          have h2 := List.getElem_idxOf (List.idxOf_lt_length_iff.2 h)
          simp only [e2] at h2
          rw [h2] at g
          exact g (by simp)
        by_cases h3 : zs.idxOf (x : Int) < i
        · rw [if_pos ⟨h, h3⟩, if_pos ⟨h, by omega⟩]
        · rw [if_neg (fun q => h3 q.2), if_neg (fun q => by have := q.2; omega)]
      · rw [if_neg (fun q => h q.1), if_neg (fun q => h q.1)]
/-- **One pile more.** -/
theorem ptL_next {P : Nat → Int} {ps : List Pl} {n k : Nat} (hk : k < ps.length) (hv : validB (parseL (tAt ps k)) (n : Int) = true) : addTo P (mAt ps k) (parseL (tAt ps k)) (parseL (tAt ps k)).length (ptL P (ps.take k) n) = ptL P (ps.take (k + 1)) n := by
  have hm := (vB_mem hv).2.2
  refine List.ext_getElem (by rw [addTo_length, ptL_length, ptL_length]) (fun x h1 h2 => ?_)
  have hx : x < n := by rwa [ptL_length] at h2
  have e1 := addTo_at (P := P) (m := mAt ps k) (vB_nodup hv) (fun z hz => (hm z hz).1) (ptL P (ps.take k) n) (x := x) (by rw [ptL_length]; exact hx) _ (Nat.le_refl _)
  have e2 := ptL_at P (ps.take (k + 1)) hx
  have et : ps.take (k + 1) = ps.take k ++ [(tAt ps k, mAt ps k)] := by
    have e0 : (tAt ps k, mAt ps k) = ps[k] := by simp [tAt, mAt, hk]
    rw [List.take_succ_eq_append_getElem hk, e0]
  rw [et, wsum_snoc, ← ptL_at P (ps.take k) hx] at e2
  have g1 : (addTo P (mAt ps k) (parseL (tAt ps k)) (parseL (tAt ps k)).length (ptL P (ps.take k) n))[x]?.getD 0 = (addTo P (mAt ps k) (parseL (tAt ps k)) (parseL (tAt ps k)).length (ptL P (ps.take k) n))[x] := by simp [h1]
  have g2 : (ptL P (ps.take (k + 1)) n)[x]?.getD 0 = (ptL P (ps.take (k + 1)) n)[x] := by simp [h2]
  rw [← g1, ← g2, e1, et, e2]
  refine congrArg (fun z => (ptL P (ps.take k) n)[x]?.getD 0 + z) ?_
  unfold ptF
  by_cases h : (x : Int) ∈ parseL (tAt ps k)
  · rw [if_pos h, if_pos ⟨h, List.idxOf_lt_length_iff.2 h⟩, Int.mul_comm]
  · rw [if_neg h, if_neg (fun q => h q.1)]; simp
/-- Names behind the last one that counts change nothing. -/
theorem addTo_stop {P : Nat → Int} {m : Int} {zs : List Int} {d : Nat} (hP : ∀ i, d ≤ i → P i = 0) (cs : List Int) : ∀ i, d ≤ i → addTo P m zs i cs = addTo P m zs d cs
  | 0, h => by rw [Nat.le_zero.1 h]
  | i + 1, h => by
    by_cases e : d = i + 1
    · rw [e]
    · have ih := addTo_stop (P := P) (m := m) (zs := zs) hP cs i (by omega)
      rw [addTo_succ, hP i (by omega), ih, Int.mul_zero, Int.add_zero]
      refine List.ext_getElem (by simp) (fun j h1 h2 => ?_)
      by_cases g : (zs[i]?.getD 0).toNat = j
      · subst g
        simp [h2]
      · rw [List.getElem_set_ne g]
theorem addTo_bound {P : Nat → Int} {m : Int} {zs : List Int} {cs : List Int} {B : Int} {n : Nat} (hm : 0 ≤ m ∧ m ≤ 99) (hP : ∀ i, i < n → 0 ≤ P i ∧ P i ≤ 5) (hc : ∀ x : Nat, 0 ≤ cs[x]?.getD 0 ∧ cs[x]?.getD 0 ≤ B) : ∀ i, i ≤ n → ∀ x : Nat, 0 ≤ (addTo P m zs i cs)[x]?.getD 0 ∧ (addTo P m zs i cs)[x]?.getD 0 ≤ B + 495 * i
  | 0, _, x => by have := hc x; rw [addTo_zero]; omega
  | i + 1, h, x => by
    have ih := addTo_bound (zs := zs) hm hP hc i (by omega)
    have hp := hP i (by omega)
    have h0 : 0 ≤ m * P i := Int.mul_nonneg hm.1 hp.1
    have h1 : m * P i ≤ 99 * 5 := Int.mul_le_mul hm.2 hp.2 hp.1 (by omega)
    rw [addTo_succ]
    by_cases g : (zs[i]?.getD 0).toNat = x
    · rw [g]
      have := ih x
      by_cases gx : x < (addTo P m zs i cs).length
      · rw [List.getElem?_set_self gx]
        simp only [Option.getD_some]
        omega
      · rw [List.getElem?_eq_none (by rw [List.length_set]; omega)]
        have := hc x
        simp only [Option.getD_none]
        omega
    · rw [List.getElem?_set_ne g]
      have := ih x
      omega
theorem ptF_bound {P : Nat → Int} {n : Nat} (hP : ∀ i, i < n → 0 ≤ P i ∧ P i ≤ 5) (x : Nat) {t : ByteArray} (ht : (parseL t).length ≤ n) : 0 ≤ ptF P x t ∧ ptF P x t ≤ 5 := by
  unfold ptF
  by_cases g : (x : Int) ∈ parseL t
  · rw [if_pos g]; exact hP _ (Nat.lt_of_lt_of_le (List.idxOf_lt_length_iff.2 g) ht)
  · rw [if_neg g]; omega
theorem ptL_bound {P : Nat → Int} {n : Nat} (hP : ∀ i, i < n → 0 ≤ P i ∧ P i ≤ 5) {ps : List Pl} (hp : fitsB ps (n : Int) = true) (k x : Nat) : 0 ≤ (ptL P (ps.take k) n)[x]?.getD 0 ∧ (ptL P (ps.take k) n)[x]?.getD 0 ≤ 5940 := by
  obtain ⟨hpv, hv⟩ := fits_both hp
  have h := pilesB_pos hpv
  by_cases hx : x < n
  · rw [ptL_at P _ hx]
    have := wsum_bound (f := ptF P x) (ps := ps.take k) (fun p hm => by
      have hm' := List.mem_of_mem_take hm
      have h2 := hv _ hm'
      have h3 := vB_short h2.2
      have h4 := h.2.1 _ hm'
      have h5 := h.2.2.1 _ hm'
      refine ⟨ptF_bound hP x (by rw [parseL_ok h2.1]; omega), by omega, by omega⟩)
    have hl : (ps.take k).length ≤ 12 := Nat.le_trans (by rw [List.length_take]; exact Nat.min_le_right _ _) h.2.2.2.2
    omega
  · rw [List.getElem?_eq_none (by rw [ptL_length]; omega)]
    simp

/-- Depths, places and last places are points. -/
def depP (d : Nat) (i : Nat) : Int := if i < d then 1 else 0
def plaP (n : Nat) (i : Nat) : Int := (n : Int) - 1 - (i : Int)
def lasP (n : Nat) (i : Nat) : Int := if i = n - 1 then 1 else 0
theorem take_iff {z : Int} : ∀ {zs : List Int} {d : Nat}, z ∈ zs.take d ↔ z ∈ zs ∧ zs.idxOf z < d
  | [], d => by simp
  | a :: t, 0 => by simp
  | a :: t, d + 1 => by
    rw [List.take_succ_cons, List.mem_cons, List.mem_cons, List.idxOf_cons]
    by_cases e : a = z
    · simp [e]
    · rw [beq_eq_false_iff_ne.2 e, cond_false, take_iff]
      constructor
      · rintro (h | ⟨h1, h2⟩)
        · exact absurd h.symm e
        · exact ⟨.inr h1, by omega⟩
      · rintro ⟨h | h, h2⟩
        · exact absurd h.symm e
        · exact .inr ⟨h, by omega⟩
theorem dep_pts (ps : List Pl) (n d : Nat) : depL ps n d = ptL (depP d) ps n := by
  unfold depL ptL
  refine List.map_congr_left (fun x _ => wsum_congr (fun p _ => ?_))
  unfold depF ptF depP
  by_cases h : (x : Int) ∈ (parseL p.1).take d
  · have := take_iff.1 h
    rw [if_pos h, if_pos this.1, if_pos this.2]
  · rw [if_neg h]
    by_cases g : (x : Int) ∈ parseL p.1
    · rw [if_pos g, if_neg (fun q => h (take_iff.2 ⟨g, q⟩))]
    · rw [if_neg g]
theorem depP_bound (d n : Nat) : ∀ i, i < n → 0 ≤ depP d i ∧ depP d i ≤ 5 := fun i _ => by unfold depP; split <;> omega
theorem plaP_bound {n : Nat} (hn : n ≤ 5) : ∀ i, i < n → 0 ≤ plaP n i ∧ plaP n i ≤ 5 := fun i h => by unfold plaP; omega
theorem lasP_bound (n : Nat) : ∀ i, i < n → 0 ≤ lasP n i ∧ lasP n i ≤ 5 := fun i _ => by unfold lasP; split <;> omega

end Go.Proofs.Ytgkakgibgfehaaa

namespace Go.Proofs.Ytgkakgibgfehaaa

/-- What a way is worth. -/
def wayP (n number : Nat) (i : Nat) : Int := if number < 6 then depP number i else if number = 6 then plaP n i else lasP n i
theorem wayP_bound {n number : Nat} (hn : n ≤ 5) : ∀ i, i < n → 0 ≤ wayP n number i ∧ wayP n number i ≤ 5 := by
  intro i hi
  unfold wayP
  split
  · exact depP_bound _ _ i hi
  · split
    · exact plaP_bound hn i hi
    · exact lasP_bound _ i hi
/-- What is told of a way. -/
def ptR (number : Nat) (ps : List Pl) (n : Int) : List Int := if fitsB ps n = true then ptL (wayP n.toNat number) ps n.toNat else []
theorem ptR_yes {number n : Nat} {ps : List Pl} (h : fitsB ps (n : Int) = true) : ptR number ps (n : Int) = ptL (wayP n number) ps n := by rw [ptR, if_pos h, Int.toNat_natCast]
theorem ptR_no {number : Nat} {n : Int} {ps : List Pl} (h : fitsB ps n = false) : ptR number ps n = [] := by rw [ptR, if_neg (by rw [h]; decide)]

/-- What DepthCounts tells. -/
def depOk (ps : List Pl) (n d : Int) : Bool := fitsB ps n && inB d 0 5
def depR (ps : List Pl) (n d : Int) : List Int := if depOk ps n d = true then depL ps n.toNat d.toNat else []
theorem depR_no {ps : List Pl} {n d : Int} (h : depOk ps n d = false) : depR ps n d = [] := by rw [depR, if_neg (by rw [h]; decide)]
theorem depOk_out {ps : List Pl} {n d : Int} (h : d < 0 ∨ 5 < d) : depOk ps n d = false := by
  have : inB d 0 5 = false := by unfold inB; exact decide_eq_false (by omega)
  rw [depOk, this, Bool.and_false]
theorem depOk_in {ps : List Pl} {n d : Int} (h0 : 0 ≤ d) (h5 : d ≤ 5) : depOk ps n d = fitsB ps n := by
  have : inB d 0 5 = true := by unfold inB; exact decide_eq_true (by omega)
  rw [depOk, this, Bool.and_true]
theorem depR_in {ps : List Pl} {n : Int} {d : Nat} (h5 : d ≤ 5) : depR ps n (d : Int) = ptR d ps n := by
  rw [depR, depOk_in (by omega) (by omega), ptR]
  have : wayP n.toNat d = depP d := by funext i; unfold wayP; rw [if_pos (by omega)]
  rw [this, ← dep_pts, Int.toNat_natCast]
end Go.Proofs.Ytgkakgibgfehaaa

namespace Go.Proofs.Ytgkakgibgfehaaa
open Go.RowKit

theorem Small.take {ps : List Pl} (h : Small ps) (k : Nat) : Small (ps.take k) := Small.of fun q hq => by
  obtain ⟨i, hi, e⟩ := List.mem_iff_getElem.1 (List.mem_of_mem_take hq)
  have := h i
  unfold tAt at this
  rw [← e]
  simpa [hi] using this
end Go.Proofs.Ytgkakgibgfehaaa

namespace Go.Proofs.Ytgkakgibgfehaaa
open Go.RowKit

attribute [local go_sem] Oper.semAt_some

/-- A function value that tells what an index is worth. -/
def WayFn (n : Nat) (P : Nat → Int) (w : World) (u : Value) : Prop := ∃ k cap, u = .func (.func k) #[] cap ∧ (∀ (args : Array Value) (w' : World), (callFunc k args).run Tq.prog w' = .ok (.enter k args) w') ∧ ∀ w', Below w.heap.size w w' → ∀ i : Nat, i < n → Calls Tq.prog k (#[] ++ #[.int .i64 (i : Int), .int .i64 (n : Int)] ++ cap) w' fun e w'' => e = .returned (.int .i64 (P i)) ∧ w' = w''
theorem oneI_dep (d i : Nat) : oneI (decide (i < d)) = depP d i := by unfold oneI depP; by_cases h : i < d <;> simp [h]
theorem oneI_las (n i : Nat) : oneI (decide (i = n - 1)) = lasP n i := by unfold oneI lasP; by_cases h : i = n - 1 <;> simp [h]
theorem wayFn_depth {n d g : Nat} {w : World} (hc : w.cell? ⟨g, 0, none⟩ = some (.int .i64 (d : Int))) (hg : g < w.heap.size) : WayFn n (depP d) w (wayD g) :=
  ⟨_, _, rfl, Go.Proofs.enters_of Tq.func130 (by kernel_rfl) rfl, fun w' hb i hi => (wayDepth_any g d i n w' ((hb.cell (p := ⟨g, 0, none⟩) hg).trans hc)).mono (by rintro e w2 ⟨rfl, rfl⟩; exact ⟨by rw [oneI_dep], rfl⟩)⟩
theorem wayFn_place {n : Nat} {w : World} (hn : n ≤ 5) : WayFn n (plaP n) w (.func (.func 127) #[] #[]) :=
  ⟨_, _, rfl, Go.Proofs.enters_of Tq.func127 (by kernel_rfl) rfl, fun w' _ i hi => wayPlace_any i n w' hi hn⟩
theorem wayFn_last {n : Nat} {w : World} (hn : n ≤ 5) : WayFn n (lasP n) w (.func (.func 128) #[] #[]) :=
  ⟨_, _, rfl, Go.Proofs.enters_of Tq.func128 (by kernel_rfl) rfl, fun w' _ i hi => (wayLast_any i n w' hi hn).mono (by rintro e w2 ⟨rfl, rfl⟩; exact ⟨by rw [oneI_las], rfl⟩)⟩
/-- The table's way of a number. -/
theorem way_at {n number : Nat} {G : Nat → Nat} {w : World} (hn : n ≤ 5) (hk : number ≤ 7) (hG : ∀ j, j < 6 → w.cell? ⟨G j, 0, none⟩ = some (.int .i64 (j : Int)) ∧ G j < w.heap.size) :
    ∃ u, #[wayD (G 0), wayD (G 1), wayD (G 2), wayD (G 3), wayD (G 4), wayD (G 5), .func (.func 127) #[] #[], .func (.func 128) #[] #[]][number]? = some u ∧ WayFn n (wayP n number) w u := by
  have hd : ∀ j, j < 6 → WayFn n (wayP n j) w (wayD (G j)) := fun j hj => by
    have := wayFn_depth (n := n) (hG j hj).1 (hG j hj).2
    have e : wayP n j = depP j := by funext i; unfold wayP; rw [if_pos hj]
    rw [e]; exact this
  have : number = 0 ∨ number = 1 ∨ number = 2 ∨ number = 3 ∨ number = 4 ∨ number = 5 ∨ number = 6 ∨ number = 7 := by omega
  rcases this with rfl | rfl | rfl | rfl | rfl | rfl | rfl | rfl
  · exact ⟨_, rfl, hd 0 (by omega)⟩
  · exact ⟨_, rfl, hd 1 (by omega)⟩
  · exact ⟨_, rfl, hd 2 (by omega)⟩
  · exact ⟨_, rfl, hd 3 (by omega)⟩
  · exact ⟨_, rfl, hd 4 (by omega)⟩
  · exact ⟨_, rfl, hd 5 (by omega)⟩
  · exact ⟨_, rfl, wayFn_place hn⟩
  · exact ⟨_, rfl, wayFn_last hn⟩

theorem index_way {arr : Array Value} {number : Nat} {u : Value} (hk : number ≤ 7) (hu : arr[number]? = some u) (w : World) : (Instr.index 116 (.agg arr) (.int .i64 (number : Int))).run Tq.prog w = .ok u w := by
  have h1 : (0 : Int) ≤ (number : Int) ∧ (number : Int) < 8 := by omega
  simp [Instr.index, go_sem, h1, hu]
  intro h; omega

set_option maxRecDepth 100000 in
set_option maxHeartbeats 4000000 in
/-- **pointCounts**. -/
theorem points_as (a : Option Addr) (len cap : Nat) (ps : List Pl) (n : Int) (number : Nat) (v : Bool) (w : World) (h : IsPiles w a len cap ps) (hs : Small ps) (hv : fitsB ps n = v) (hk : number ≤ 7) :
    Calls Tq.prog 62 #[.slice a len cap, .int .i64 n, .int .i64 (number : Int)] w (Told w (ptR number ps n) v) := by
  obtain ⟨i0, hi, hz0, hz1, hz2⟩ := info_parts int_info
  have HI := Lib.hid h
  have HS := Lib.hid hs
  have H1 := Lib.hid h.1
  clear h hs
  cases v
  · have HV := Lib.hid hv; clear hv
    have HR := Lib.hid (ptR_no (number := number) HV.out)
    go_enter Tq.func62, Tq.ntmps62
    go_wp2_with fail
    refine (implFits_as _ len cap ps n false _ HI.out HS.out HV.out).mono ?_
    rintro e1 w1 ⟨rfl, hb1⟩
    go_wp2
    go_ret2
    rw [Told, HR.out]
    exact ⟨none, 0, rfl, World.ownsRow_nil _ _ _ _, hb1⟩
  · obtain ⟨hp, hn1, hn5, -⟩ := fits_parts hv
    obtain ⟨N, rfl⟩ : ∃ N : Nat, n = (N : Int) := ⟨n.toNat, by omega⟩
    have hl12 : len ≤ 12 := by have := (pilesB_pos hp).2.2.2.2; rw [H1.out] at this; exact this
    have HR := Lib.hid (ptR_yes (number := number) hv)
    have HV := Lib.hid hv
    have HP := Lib.hid hp
    clear hv hp
    have hN1 : 1 ≤ N := by omega
    have hN5 : N ≤ 5 := by omega
    go_enter Tq.func62, Tq.ntmps62
    go_wp2_with fail
    refine (implFits_as _ len cap ps (N : Int) true _ HI.out HS.out HV.out).mono ?_
    rintro e1 w1 ⟨rfl, hb1⟩
    have B1 := Lib.hid hb1
    clear hb1
    go_wp2_with fail
    refine (ways_any _).mono ?_
    rintro e2 w2 ⟨G, rfl, hG, hb2⟩
    obtain ⟨u, hu, hw⟩ := way_at (n := N) hN5 hk (fun j hj => ⟨(hG j hj).1, (hG j hj).2.2⟩)
    have B2 := Lib.hid (B1.out.trans (hb2.mono B1.out.size))
    have HW := Lib.hid hw
    clear hG hb2 hw B1
    generalize #[wayD (G 0), wayD (G 1), wayD (G 2), wayD (G 3), wayD (G 4), wayD (G 5), Value.func (.func 127) #[] #[], Value.func (.func 128) #[] #[]] = arr at hu ⊢
    have hix := index_way hk hu w2
    obtain ⟨kf, cf, rfl, hent, hcl⟩ := HW.out
    have HC := Lib.hid hcl
    clear hcl HW hu
    go_wp2_with (at_make; refine wpList_make_full _ rfl _ _ 27 rfl w2.heap.size 3 i0 (.int .i64 0) 1 Tq.underlying27 hi hz0 hz1 .i64 .i64 _ _ N rfl rfl rfl rfl (by rw [hz2]; omega) (by unfold maxLen; omega) (Nat.le_refl _) ?_; intro w3 hown hgrow)
    obtain ⟨g, hg⟩ : ∃ g, w2.heap.size = g := ⟨_, rfl⟩
    have hgw : w.heap.size ≤ g := by rw [← hg]; exact B2.out.size
    have hb3 : Below g w2 w3 := hg ▸ (Below.refl _ w2).grown hgrow (Nat.le_refl _) (fun k e => by cases e)
    rw [hg] at hown ⊢
    have O3 : Hid (w3.ownsRow g 3 1 (.slice (some ⟨g, 0, none⟩) N N) N ((ptL (wayP N number) (ps.take 0) N).map (Value.int .i64))) := by
      unfold Hid; rw [List.take_zero, ptL_nil, ← zeros_made]
      exact hown
    have HG := Lib.hid hg
    clear hown hgrow hg hix hi hz0 hz1 hz2
    go_wp2
    go_loopw [11, 12, 13, 14, 15, 27, 39] (fun _ _ _ _ _ iv _ wr => ∃ i : Nat, i ≤ len ∧ iv = .int .i64 (i : Int) ∧ Hid (wr.ownsRow g 3 1 (.slice (some ⟨g, 0, none⟩) N N) N ((ptL (wayP N number) (ps.take i) N).map (Value.int .i64))) ∧ Below g w2 wr) (fun _ _ _ _ _ iv _ _ => len - (intOf iv).toNat)
    case atStart => exact ⟨0, Nat.zero_le _, rfl, O3, hb3⟩
    case round =>
      clear O3 hb3
      obtain ⟨i, hil, rfl, hO, hB⟩ := hrel
      have hgr : g ≤ wr.heap.size := by have := hB.size; rw [HG.out] at this; exact this
      by_cases hlt : i < len
      · have hBw : Below w.heap.size w wr := B2.out.trans (hB.mono hgw)
        obtain ⟨b, off, rfl, hb, c0, c1⟩ := (HI.out.below hBw).at_text hlt
        obtain ⟨t, ht⟩ : ∃ t, tAt ps i = t := ⟨_, rfl⟩
        obtain ⟨m, hm⟩ : ∃ m, mAt ps i = m := ⟨_, rfl⟩
        obtain ⟨pl, hpl⟩ : ∃ pl, parseL t = pl := ⟨_, rfl⟩
        have hst : t.size ≤ 1048600 := by rw [← ht]; exact HS.out i
        have hm99 : 0 ≤ m ∧ m ≤ 99 := by rw [← hm]; exact mAt_valid HP.out i
        have hips : i < ps.length := by rw [H1.out]; exact hlt
        have hvN : validB pl (N : Int) = true := by rw [← hpl, ← ht]; exact (fits_parts HV.out).2.2.2 i hips
        have hlN : pl.length ≤ N := by have := vB_short hvN; omega
        have HOK : Hid (validB (nums t) 5 = true) := by
          have := (pilesB_pos HP.out).2.2.2.1 _ (pile_mem (ps := ps) (k := i) hips)
          unfold Hid; rw [← ht]; exact this
        have HNX : Hid (addTo (wayP N number) m pl pl.length (ptL (wayP N number) (ps.take i) N) = ptL (wayP N number) (ps.take (i + 1)) N) := by
          have := ptL_next (P := wayP N number) (n := N) hips (by rw [ht, hpl]; exact hvN)
          rw [ht, hm, hpl] at this; exact this
        have HBD : Hid (∀ x : Nat, 0 ≤ (ptL (wayP N number) (ps.take i) N)[x]?.getD 0 ∧ (ptL (wayP N number) (ps.take i) N)[x]?.getD 0 ≤ 5940) := fun x => ptL_bound (wayP_bound hN5) HV.out i x
        have HZ : Hid (∀ z ∈ pl, 0 ≤ z ∧ z < (N : Int)) := (vB_mem hvN).2.2
        obtain ⟨cs, hcs⟩ : ∃ cs, ptL (wayP N number) (ps.take i) N = cs := ⟨_, rfl⟩
        have hcl : cs.length = N := by rw [← hcs]; exact ptL_length _ _ _
        rw [hcs] at hO HNX HBD
        rw [ht] at c0
        rw [hm] at c1
        have HPL := Lib.hid hpl
        clear ht hpl hm hBw hcs hips hvN
        go_wp2_with fail
        refine (implParse_as t pl true _ hst HPL.out HOK.out).mono ?_
        rintro e w4 ⟨a4, c4, rfl, ho4, hb4⟩
        have hBx : Below wr.heap.size wr w4 := ((Below.refl _ _).alloc (Nat.le_refl _) _).trans (hb4.mono (by simp))
        have cm : w4.cell? ⟨wr.heap.size, 1, none⟩ = some (.int .i64 m) := (hb4.cell (p := ⟨wr.heap.size, 1, none⟩) (by simp)).trans ((World.cell?_alloc_mark wr _ _ (0, 0) 1).trans rfl)
        have hbm : wr.heap.size < w4.heap.size := by have := hb4.size; simp at this; omega
        have I4' : w4.ownsRow (wr.heap.size + 1) 3 1 (.slice a4 pl.length c4) pl.length (pl.map (Value.int .i64)) := by simpa using ho4
        have I4 := Lib.hid I4'
        clear I4'
        have hO4 : Hid (w4.ownsRow g 3 1 (.slice (some ⟨g, 0, none⟩) N N) N ((addTo (wayP N number) m pl 0 cs).map (Value.int .i64))) := owns_under hO.out hBx
        have hgl : g < wr.heap.size := (hO.out.lt g rfl).2
        have B4 : Below g w2 w4 := hB.trans (hBx.mono hgr)
        obtain ⟨gp, hgp⟩ : ∃ gp, wr.heap.size = gp := ⟨_, rfl⟩
        rw [hgp] at cm hbm hgl I4 ⊢
        clear ho4 hb4 hBx hO hB c0 c1 hgp hgr
        go_wp2
        go_loopw [14, 15, 39] (fun _ _ jv wr => ∃ j : Nat, j ≤ pl.length ∧ jv = .int .i64 (j : Int) ∧ Hid (wr.ownsRow g 3 1 (.slice (some ⟨g, 0, none⟩) N N) N ((addTo (wayP N number) m pl j cs).map (Value.int .i64))) ∧ Hid (wr.ownsRow (gp + 1) 3 1 (.slice a4 pl.length c4) pl.length (pl.map (Value.int .i64))) ∧ Hid (wr.cell? ⟨gp, 1, none⟩ = some (.int .i64 m)) ∧ gp < wr.heap.size ∧ Below g w2 wr) (fun _ _ jv _ => pl.length - (intOf jv).toNat)
        case atStart => exact ⟨0, Nat.zero_le _, rfl, hO4, I4, cm, hbm, B4⟩
        case round =>
          clear hO4 I4 cm hbm B4
          rename World => wx
          obtain ⟨j, hjl, rfl, hO, hI, hm1, hbm, hB⟩ := hrel
          by_cases hlj : j < pl.length
          · obtain ⟨b4, o4, rfl, -, hc4⟩ := (IsInts.of_owned hI.out (by omega)).2.2.2 (by omega)
            have hz := hc4 j hlj
            obtain ⟨z, hzz⟩ : ∃ z, pl[j]?.getD 0 = z := ⟨_, rfl⟩
            rw [hzz] at hz
            have hzr : 0 ≤ z ∧ z < (N : Int) := HZ.out z (by rw [← hzz]; simp [hlj])
            obtain ⟨x, rfl⟩ := Int.eq_ofNat_of_zero_le hzr.1
            have hxN : x < N := by omega
            obtain ⟨cv, hcv⟩ : ∃ cv, (addTo (wayP N number) m pl j cs)[x]?.getD 0 = cv := ⟨_, rfl⟩
            have hcvb : 0 ≤ cv ∧ cv ≤ 8415 := by
              have := addTo_bound (zs := pl) hm99 (wayP_bound (number := number) hN5) HBD.out j (by omega) x
              rw [hcv] at this; omega
            obtain ⟨q, hq⟩ : ∃ q, wayP N number j = q := ⟨_, rfl⟩
            have hqb : 0 ≤ q ∧ q ≤ 5 := by rw [← hq]; exact wayP_bound hN5 j (by omega)
            have hmq : 0 ≤ m * q ∧ m * q ≤ 495 := ⟨Int.mul_nonneg hm99.1 hqb.1, Int.le_trans (Int.mul_le_mul hm99.2 hqb.2 hqb.1 (by omega)) (by omega)⟩
            have hcell : wx.drew.cell? ⟨g, x, none⟩ = some (.int .i64 cv) := by
              have h1 : wx.drew.cell? ⟨g, x, none⟩ = wx.cell? ⟨g, x, none⟩ := rfl
              rw [h1, hO.out.cellAt x (by omega), ← hcv]
              have : x < (addTo (wayP N number) m pl j cs).length := by rw [addTo_length]; omega
              simp [this]
            have hfz : wx.drew.frozen? ⟨g, x, none⟩ = false := hO.out.frozenAt x
            have O7 : Hid ((wx.drew.setCell ⟨g, x, none⟩ (.int .i64 (cv + m * q))).ownsRow g 3 1 (.slice (some ⟨g, 0, none⟩) N N) N ((addTo (wayP N number) m pl (j + 1) cs).map (Value.int .i64))) := by
              have h1 := (hO.out.stored x (.int .i64 (cv + m * q))).1
              unfold Hid
              rw [addTo_succ, hzz, Int.toNat_natCast, hcv, hq, ← map_set_int]
              exact h1
            have I7 : Hid ((wx.drew.setCell ⟨g, x, none⟩ (.int .i64 (cv + m * q))).ownsRow (gp + 1) 3 1 (.slice (some ⟨b4, o4, none⟩) pl.length c4) pl.length (pl.map (Value.int .i64))) := by
              refine World.ownsRow.kept hI.out (row := some g) (w' := wx.drew.setCell ⟨g, x, none⟩ (.int .i64 (cv + m * q))) ⟨rfl, rfl, rfl, by simp [World.setCell], fun k hk hne => Below.heap_setCell _ _ _ _ (by show k ≠ g; intro e; exact hne (by rw [e]))⟩ ?_
              cases hbl : (Value.slice (some ⟨b4, o4, none⟩) pl.length c4).ownBlock with
              | none => exact .inl rfl
              | some jj => right; intro e; injection e with e; have := (hI.out.lt jj hbl).1; omega
            have M7 : Hid ((wx.drew.setCell ⟨g, x, none⟩ (.int .i64 (cv + m * q))).cell? ⟨gp, 1, none⟩ = some (.int .i64 m)) := by
              unfold Hid
              rw [World.cell?_setCell_other _ _ _ _ (by intro e; injection e with e _; omega)]
              exact hm1.out
            have B7 : Below g w2 (wx.drew.setCell ⟨g, x, none⟩ (.int .i64 (cv + m * q))) := (hB.drew).setCell (p := ⟨g, x, none⟩) (Nat.le_refl _) _
            have G7 : gp < (wx.drew.setCell ⟨g, x, none⟩ (.int .i64 (cv + m * q))).heap.size := by simp [World.setCell]; exact hbm
            have hcc := HC.out wx.drew (by rw [HG.out]; exact hB.drew) j (by omega)
            rw [hq] at hcc
            have HCC := Lib.hid (hcc.mono (R' := fun e w' => e = .returned (.int .i64 q) ∧ w' = wx.drew) (by rintro e w5 ⟨rfl, rfl⟩; exact ⟨rfl, rfl⟩))
            have hm2 := hm1.out
            have hxi : (x : Int) < (N : Int) := by omega
            have hji : (j : Int) < (pl.length : Int) := by omega
            clear hc4 hcv hq hzz hcc hO hI hm1
            go_wp2_with fail
            refine region_quiet_tail 12 (by kernel_rfl) (by kernel_rfl) ?_
            simp only [List.take_succ_cons, List.take_zero, List.drop_succ_cons, List.drop_zero]
            repeat (first | go_big_quiet_step (fail) | (go_big_quiet_want; go_big_quiet_op; refine ⟨_, HCC.out, ?_⟩; go_big_quiet_on))
            refine wpQuiet_nil ?_
            generalize wx.drew = w6 at O7 I7 M7 B7 G7 hcell hfz ⊢
            go_wp2
            go_roundw
            case rel => exact ⟨j + 1, by omega, by go_num, O7, I7, M7, G7, B7⟩
            case measure => simp [intOf]; omega
          · obtain rfl : j = pl.length := by omega
            have hO9 := hO.out
            rw [HNX.out] at hO9
            have hO8 := Lib.hid hO9
            clear hO9
            go_wp2
            go_roundw
            case rel => exact ⟨i + 1, by omega, by go_num, hO8, hB⟩
            case measure => simp [intOf]; omega
      · obtain rfl : i = len := by omega
        have hO9 : Hid (wr.ownsRow g 3 1 (.slice (some ⟨g, 0, none⟩) N N) N ((ptL (wayP N number) ps N).map (Value.int .i64))) := by
          have := hO.out; rw [List.take_of_length_le (by rw [H1.out]; exact Nat.le_refl _)] at this; exact this
        have hlen : (ptL (wayP N number) ps N).length = N := ptL_length _ _ _
        go_wp2
        go_ret2
        rw [Told, HR.out, hlen]
        exact ⟨some ⟨g, 0, none⟩, N, rfl, hO9.out.mono hgw, B2.out.trans (hB.mono hgw)⟩

set_option maxRecDepth 100000 in
set_option maxHeartbeats 2000000 in
/-- **impl.DepthCounts**. -/
theorem implDepth_as (a : Option Addr) (len cap : Nat) (ps : List Pl) (n d : Int) (v : Bool) (l : List Int) (w : World) (h : IsPiles w a len cap ps) (hs : Small ps) (hv : depOk ps n d = v) (hl : depR ps n d = l) :
    Calls Tq.prog 28 #[.slice a len cap, .int .i64 n, .int .i64 d] w (Told w l v) := by
  have HI := Lib.hid h
  have HS := Lib.hid hs
  clear h hs
  by_cases h0 : d < 0
  · have hd : decide (d < 0) = true := decide_eq_true h0
    have e1 := depOk_out (ps := ps) (n := n) (.inl h0)
    rw [e1] at hv
    rw [depR_no e1] at hl
    subst hv hl
    clear e1
    go_enter Tq.func28, Tq.ntmps28
    go_wp2
    go_ret2
    exact ⟨none, 0, rfl, World.ownsRow_nil _ _ _ _, Below.refl _ _⟩
  · have hd : decide (d < 0) = false := decide_eq_false h0
    by_cases h5 : 5 < d
    · have hd5 : decide (5 < d) = true := decide_eq_true h5
      have e1 := depOk_out (ps := ps) (n := n) (.inr h5)
      rw [e1] at hv
      rw [depR_no e1] at hl
      subst hv hl
      clear e1
      go_enter Tq.func28, Tq.ntmps28
      go_wp2
      go_ret2
      exact ⟨none, 0, rfl, World.ownsRow_nil _ _ _ _, Below.refl _ _⟩
    · have hd5 : decide (5 < d) = false := decide_eq_false h5
      obtain ⟨k, rfl⟩ := Int.eq_ofNat_of_zero_le (by omega : 0 ≤ d)
      have hk5 : k ≤ 5 := by omega
      rw [depOk_in (by omega) (by omega)] at hv
      rw [depR_in hk5] at hl
      have HV := Lib.hid hv
      have HL := Lib.hid hl
      clear hv hl
      go_enter Tq.func28, Tq.ntmps28
      go_wp2_with fail
      refine (points_as _ _ _ ps n k v _ HI.out HS.out HV.out (by omega)).mono ?_
      rw [HL.out]
      rintro e1 w1 ⟨a1, c1, rfl, ho, hb⟩
      go_wp2
      go_ret2
      exact ⟨a1, c1, rfl, ho, hb⟩
end Go.Proofs.Ytgkakgibgfehaaa

namespace Go.Proofs.Ytgkakgibgfehaaa
open Go.RowKit

attribute [local go_sem] Oper.semAt_some

set_option maxRecDepth 100000 in
set_option maxHeartbeats 4000000 in
/-- **spec.l14Depth**. -/
theorem specDepth0_as (a : Option Addr) (len cap : Nat) (ps : List Pl) (N : Nat) (d : Nat) (w : World) (h : IsPiles w a len cap ps) (hs : Small ps) (hv : fitsB ps (N : Int) = true) :
    Calls Tq.prog 64 #[.slice a len cap, .int .i64 (N : Int), .int .i64 (d : Int)] w fun e w' => ∃ g, e = .returned (.slice (some ⟨g, 0, none⟩) N N) ∧ w'.ownsRow w.heap.size 3 1 (.slice (some ⟨g, 0, none⟩) N N) N ((ptL (depP d) ps N).map (Value.int .i64)) ∧ Below w.heap.size w w' := by
  obtain ⟨i0, hi, hz0, hz1, hz2⟩ := info_parts int_info
  have HI := Lib.hid h
  have HS := Lib.hid hs
  have H1 := Lib.hid h.1
  obtain ⟨hp, hn1, hn5, -⟩ := fits_parts hv
  have hl12 : len ≤ 12 := by have := (pilesB_pos hp).2.2.2.2; rw [H1.out] at this; exact this
  have HV := Lib.hid hv
  have HP := Lib.hid hp
  have hN1 : 1 ≤ N := by omega
  have hN5 : N ≤ 5 := by omega
  have HPB : Hid (∀ i, i < N → 0 ≤ (depP d) i ∧ (depP d) i ≤ 5) := depP_bound d N
  clear h hs hv hp
  obtain ⟨g, hg⟩ : ∃ g, w.heap.size = g := ⟨_, rfl⟩
  go_enter Tq.func64, Tq.ntmps64
  go_wp2_with (at_make; refine wpList_make_full _ rfl _ _ 27 rfl w.heap.size 3 i0 (.int .i64 0) 1 Tq.underlying27 hi hz0 hz1 .i64 .i64 _ _ N rfl rfl rfl rfl (by rw [hz2]; omega) (by unfold maxLen; omega) (Nat.le_refl _) ?_; intro w3 hown hgrow)
  have hb3 : Below g w w3 := hg ▸ (Below.refl _ w).grown hgrow (Nat.le_refl _) (fun k e => by cases e)
  rw [hg] at hown
  have O3 : Hid (w3.ownsRow g 3 1 (.slice (some ⟨g, 0, none⟩) N N) N ((ptL (depP d) (ps.take 0) N).map (Value.int .i64))) := by
    unfold Hid; rw [List.take_zero, ptL_nil, ← zeros_made]
    exact hown
  have HG := Lib.hid hg
  clear hown hgrow hg hi hz0 hz1 hz2
  go_wp2
  go_loopw [8, 9, 10, 11] (fun iv _ _ _ wr => ∃ i : Nat, i ≤ len ∧ iv = .int .i64 (i : Int) ∧ Hid (wr.ownsRow g 3 1 (.slice (some ⟨g, 0, none⟩) N N) N ((ptL (depP d) (ps.take i) N).map (Value.int .i64))) ∧ Below g w wr) (fun iv _ _ _ _ => len - (intOf iv).toNat)
  case atStart => exact ⟨0, Nat.zero_le _, rfl, O3, hb3⟩
  case round =>
    clear O3 hb3
    obtain ⟨i, hil, rfl, hO, hB⟩ := hrel
    have hgr : g ≤ wr.heap.size := by have := hB.size; rw [HG.out] at this; exact this
    have hBw : Below w.heap.size w wr := HG.out.symm ▸ hB
    by_cases hlt : i < len
    · obtain ⟨b, off, rfl, hb, c0, c1⟩ := (HI.out.below hBw).at_text hlt
      have hbw : b < w.heap.size := by
        obtain ⟨b', off', e, hb', -⟩ := HI.out.at_text hlt
        injection e with e
        injection e with e
        omega
      obtain ⟨t, ht⟩ : ∃ t, tAt ps i = t := ⟨_, rfl⟩
      obtain ⟨m, hm⟩ : ∃ m, mAt ps i = m := ⟨_, rfl⟩
      obtain ⟨pl, hpl⟩ : ∃ pl, parseL t = pl := ⟨_, rfl⟩
      have hst : t.size ≤ 1048600 := by rw [← ht]; exact HS.out i
      have hm99 : 0 ≤ m ∧ m ≤ 99 := by rw [← hm]; exact mAt_valid HP.out i
      have hips : i < ps.length := by rw [H1.out]; exact hlt
      have hvN : validB pl (N : Int) = true := by rw [← hpl, ← ht]; exact (fits_parts HV.out).2.2.2 i hips
      have hlN : pl.length ≤ N := by have := vB_short hvN; omega
      have HNX : Hid (addTo (depP d) m pl pl.length (ptL (depP d) (ps.take i) N) = ptL (depP d) (ps.take (i + 1)) N) := by
        have := ptL_next (P := (depP d)) (n := N) hips (by rw [ht, hpl]; exact hvN)
        rw [ht, hm, hpl] at this; exact this
      have HBD : Hid (∀ x : Nat, 0 ≤ (ptL (depP d) (ps.take i) N)[x]?.getD 0 ∧ (ptL (depP d) (ps.take i) N)[x]?.getD 0 ≤ 5940) := fun x => ptL_bound HPB.out HV.out i x
      have HZ : Hid (∀ z ∈ pl, 0 ≤ z ∧ z < (N : Int)) := (vB_mem hvN).2.2
      obtain ⟨cs, hcs⟩ : ∃ cs, ptL (depP d) (ps.take i) N = cs := ⟨_, rfl⟩
      have hcl : cs.length = N := by rw [← hcs]; exact ptL_length _ _ _
      rw [hcs] at hO HNX HBD
      rw [ht] at c0
      rw [hm] at c1
      have HPL := Lib.hid hpl
      clear ht hpl hm hBw hcs hips hvN
      go_wp2_with fail
      refine (specParse_as t pl _ _ hst HPL.out rfl).mono ?_
      rintro e w4 ⟨a4, c4, rfl, ho4, hb4⟩
      have cm : w4.cell? ⟨b, off + i * 2 + 1, none⟩ = some (.int .i64 m) := (hb4.cell (p := ⟨b, off + i * 2 + 1, none⟩) hb).trans c1
      have hO4 : Hid (w4.ownsRow g 3 1 (.slice (some ⟨g, 0, none⟩) N N) N ((addTo (depP d) m pl 0 cs).map (Value.int .i64))) := owns_under hO.out hb4
      have hgl : g < wr.heap.size := (hO.out.lt g rfl).2
      have B4 : Below g w w4 := hB.trans (hb4.mono hgr)
      have I4' : w4.ownsRow (g + 1) 3 1 (.slice a4 pl.length c4) pl.length (pl.map (Value.int .i64)) := ho4.mono (by omega)
      have I4 := Lib.hid I4'
      have hbg : b < g := by rw [← HG.out]; exact hbw
      clear ho4 hb4 hO hB c0 c1 hgr I4' hb
      go_wp2
      go_loopw [11] (fun jv wr => ∃ j : Nat, j ≤ pl.length ∧ jv = .int .i64 (j : Int) ∧ j ≤ d ∧ Hid (wr.ownsRow g 3 1 (.slice (some ⟨g, 0, none⟩) N N) N ((addTo (depP d) m pl j cs).map (Value.int .i64))) ∧ Hid (wr.ownsRow (g + 1) 3 1 (.slice a4 pl.length c4) pl.length (pl.map (Value.int .i64))) ∧ Hid (wr.cell? ⟨b, off + i * 2 + 1, none⟩ = some (.int .i64 m)) ∧ Below g w wr) (fun jv _ => pl.length - (intOf jv).toNat)
      case atStart => exact ⟨0, Nat.zero_le _, rfl, Nat.zero_le _, hO4, I4, cm, B4⟩
      case round =>
        clear hO4 I4 cm B4
        rename World => wx
        obtain ⟨j, hjl, rfl, hjd0, hO, hI, hm1, hB⟩ := hrel
        by_cases hlj : j < pl.length
        · by_cases hjd : j < d
          · have hjdi : (j : Int) < (d : Int) := by omega
            obtain ⟨b4, o4, rfl, -, hc4⟩ := (IsInts.of_owned hI.out (by omega)).2.2.2 (by omega)
            have hz := hc4 j hlj
            obtain ⟨z, hzz⟩ : ∃ z, pl[j]?.getD 0 = z := ⟨_, rfl⟩
            rw [hzz] at hz
            have hzr : 0 ≤ z ∧ z < (N : Int) := HZ.out z (by rw [← hzz]; simp [hlj])
            obtain ⟨x, rfl⟩ := Int.eq_ofNat_of_zero_le hzr.1
            have hxN : x < N := by omega
            obtain ⟨cv, hcv⟩ : ∃ cv, (addTo (depP d) m pl j cs)[x]?.getD 0 = cv := ⟨_, rfl⟩
            have hcvb : 0 ≤ cv ∧ cv ≤ 8415 := by
              have := addTo_bound (zs := pl) hm99 HPB.out HBD.out j (by omega) x
              rw [hcv] at this; omega
            have hval : m * depP d j = m := by unfold depP; rw [if_pos hjd, Int.mul_one]
            have hcell : wx.drew.cell? ⟨g, x, none⟩ = some (.int .i64 cv) := by
              have h1 : wx.drew.cell? ⟨g, x, none⟩ = wx.cell? ⟨g, x, none⟩ := rfl
              rw [h1, hO.out.cellAt x (by omega), ← hcv]
              have : x < (addTo (depP d) m pl j cs).length := by rw [addTo_length]; omega
              simp [this]
            have hcell0 : wx.cell? ⟨g, x, none⟩ = some (.int .i64 cv) := hcell
            have hfz : wx.drew.frozen? ⟨g, x, none⟩ = false := hO.out.frozenAt x
            have O7 : Hid ((wx.drew.setCell ⟨g, x, none⟩ (.int .i64 (cv + m))).ownsRow g 3 1 (.slice (some ⟨g, 0, none⟩) N N) N ((addTo (depP d) m pl (j + 1) cs).map (Value.int .i64))) := by
              have h1 := (hO.out.stored x (.int .i64 (cv + m))).1
              unfold Hid
              rw [addTo_succ, hzz, Int.toNat_natCast, hcv, hval, ← map_set_int]
              exact h1
            have I7 : Hid ((wx.drew.setCell ⟨g, x, none⟩ (.int .i64 (cv + m))).ownsRow (g + 1) 3 1 (.slice (some ⟨b4, o4, none⟩) pl.length c4) pl.length (pl.map (Value.int .i64))) := by
              refine World.ownsRow.kept hI.out (row := some g) (w' := wx.drew.setCell ⟨g, x, none⟩ (.int .i64 (cv + m))) ⟨rfl, rfl, rfl, by simp [World.setCell], fun k hk hne => Below.heap_setCell _ _ _ _ (by show k ≠ g; intro e; exact hne (by rw [e]))⟩ ?_
              cases hbl : (Value.slice (some ⟨b4, o4, none⟩) pl.length c4).ownBlock with
              | none => exact .inl rfl
              | some jj => right; intro e; injection e with e; have := (hI.out.lt jj hbl).1; omega
            have M7 : Hid ((wx.drew.setCell ⟨g, x, none⟩ (.int .i64 (cv + m))).cell? ⟨b, off + i * 2 + 1, none⟩ = some (.int .i64 m)) := by
              unfold Hid
              rw [World.cell?_setCell_other _ _ _ _ (by intro e; injection e with e _; omega)]
              exact hm1.out
            have B7 : Below g w (wx.drew.setCell ⟨g, x, none⟩ (.int .i64 (cv + m))) := (hB.drew).setCell (p := ⟨g, x, none⟩) (Nat.le_refl _) _
            have hm2 := hm1.out
            have hxi : (x : Int) < (N : Int) := by omega
            have hji : (j : Int) < (pl.length : Int) := by omega
            clear hc4 hcv hzz hO hI hm1 hval
            go_wp2_with fail
            refine region_quiet_tail 18 (by kernel_rfl) (by kernel_rfl) ?_
            simp only [List.take_succ_cons, List.take_zero, List.drop_succ_cons, List.drop_zero]
            repeat (go_big_quiet_step (fail))
            refine wpQuiet_nil ?_
            generalize wx.drew = w6 at O7 I7 M7 B7 hcell hfz ⊢
            go_wp2
            go_roundw
            case rel => exact ⟨j + 1, by omega, by go_num, by omega, O7, I7, M7, B7⟩
            case measure => simp [intOf]; omega
          · have hjdi : ¬ (j : Int) < (d : Int) := by omega
            have hji : (j : Int) < (pl.length : Int) := by omega
            have hO9 : wx.ownsRow g 3 1 (.slice (some ⟨g, 0, none⟩) N N) N ((ptL (depP d) (ps.take (i + 1)) N).map (Value.int .i64)) := by
              have h1 := hO.out
              have h2 : addTo (depP d) m pl pl.length cs = addTo (depP d) m pl j cs := by
                rw [addTo_stop (d := d) (fun k hk => by unfold depP; rw [if_neg (by omega)]) cs pl.length (by omega), addTo_stop (d := d) (fun k hk => by unfold depP; rw [if_neg (by omega)]) cs j (by omega)]
              rw [← h2, HNX.out] at h1
              exact h1
            have hO8 := Lib.hid hO9
            clear hO9 hO
            go_wp2
            go_roundw
            case rel => exact ⟨i + 1, by omega, by go_num, hO8, hB⟩
            case measure => simp [intOf]; omega
        · obtain rfl : j = pl.length := by omega
          have hO9 := hO.out
          rw [HNX.out] at hO9
          have hO8 := Lib.hid hO9
          clear hO9
          go_wp2
          go_roundw
          case rel => exact ⟨i + 1, by omega, by go_num, hO8, hB⟩
          case measure => simp [intOf]; omega
    · obtain rfl : i = len := by omega
      have hO9 : Hid (wr.ownsRow g 3 1 (.slice (some ⟨g, 0, none⟩) N N) N ((ptL (depP d) ps N).map (Value.int .i64))) := by
        have := hO.out; rw [List.take_of_length_le (by rw [H1.out]; exact Nat.le_refl _)] at this; exact this
      go_wp2
      go_ret
      exact ⟨g, rfl, HG.out.symm ▸ hO9.out, hBw⟩

end Go.Proofs.Ytgkakgibgfehaaa

namespace Go.Proofs.Ytgkakgibgfehaaa

theorem inB_of {x lo hi : Int} (h : inB x lo hi = true) : lo ≤ x ∧ x ≤ hi := by simpa [inB] using h
end Go.Proofs.Ytgkakgibgfehaaa

namespace Go.Proofs.Ytgkakgibgfehaaa
open Go.RowKit

attribute [local go_sem] Oper.semAt_some

set_option maxRecDepth 100000 in
set_option maxHeartbeats 2000000 in
/-- **spec.DepthCounts**. -/
theorem specDepth_as (a : Option Addr) (len cap : Nat) (ps : List Pl) (n d : Int) (v : Bool) (l : List Int) (w : World) (h : IsPiles w a len cap ps) (hs : Small ps) (hv : depOk ps n d = v) (hl : depR ps n d = l) :
    Calls Tq.prog 29 #[.slice a len cap, .int .i64 n, .int .i64 d] w (Told w l v) := by
  have HI := Lib.hid h
  have HS := Lib.hid hs
  clear h hs
  cases hf : fitsB ps n
  · have e1 : depOk ps n d = false := by rw [depOk, hf]; rfl
    rw [e1] at hv
    rw [depR_no e1] at hl
    subst hv hl
    have HF := Lib.hid hf
    clear e1 hf
    go_enter Tq.func29, Tq.ntmps29
    go_wp2_with fail
    refine (specFits_as _ _ _ ps n false _ HI.out HS.out HF.out).mono ?_
    rintro e w1 ⟨rfl, hb⟩
    go_wp2
    go_ret2
    exact told_nil hb
  · have HF := Lib.hid hf
    cases hi : inB d 0 5
    · have e1 : depOk ps n d = false := by rw [depOk, hf, hi]; rfl
      rw [e1] at hv
      rw [depR_no e1] at hl
      subst hv hl
      have HD := Lib.hid hi
      clear e1 hf hi
      go_enter Tq.func29, Tq.ntmps29
      go_wp2_with fail
      refine (specFits_as _ _ _ ps n true _ HI.out HS.out HF.out).mono ?_
      rintro e w1 ⟨rfl, hb⟩
      go_wp2_with fail
      refine (l6In_any _ _ _ _).mono ?_
      rintro e w' ⟨he, rfl⟩
      rw [HD.out] at he
      subst he
      go_wp2
      go_ret2
      exact told_nil hb
    · obtain ⟨-, hn1, hn5, -⟩ := fits_parts hf
      have hd := inB_of hi
      obtain ⟨N, rfl⟩ : ∃ N : Nat, n = (N : Int) := ⟨n.toNat, by omega⟩
      obtain ⟨k, rfl⟩ := Int.eq_ofNat_of_zero_le hd.1
      have e1 : depOk ps (N : Int) (k : Int) = true := by rw [depOk, hf, hi]; rfl
      have e : depR ps (N : Int) (k : Int) = ptL (depP k) ps N := by rw [depR, if_pos e1, Int.toNat_natCast, Int.toNat_natCast, dep_pts]
      have HL : Hid (ptL (depP k) ps N = l) := by rw [Hid, ← e, hl]
      have hlen : (ptL (depP k) ps N).length = N := ptL_length _ _ _
      rw [e1] at hv
      subst hv
      have HD := Lib.hid hi
      clear hl hf e e1 hi
      go_enter Tq.func29, Tq.ntmps29
      go_wp2_with fail
      refine (specFits_as _ _ _ ps (N : Int) true _ HI.out HS.out HF.out).mono ?_
      rintro e w1 ⟨rfl, hb⟩
      go_wp2_with fail
      refine (l6In_any _ _ _ _).mono ?_
      rintro e w' ⟨he, rfl⟩
      rw [HD.out] at he
      subst he
      go_wp2_with fail
      refine (specDepth0_as _ _ _ ps N k _ (HI.out.below hb) HS.out HF.out).mono ?_
      rintro e w2 ⟨g, rfl, ho, hb2⟩
      have HO := Lib.hid (ho.mono hb.size)
      have HB := Lib.hid (hb.trans (hb2.mono hb.size))
      clear ho hb hb2
      go_wp2
      go_ret2
      rw [HL.out] at hlen
      rw [HL.out] at HO
      rw [Told, hlen]
      exact ⟨some ⟨g, 0, none⟩, N, rfl, HO.out, HB.out⟩

end Go.Proofs.Ytgkakgibgfehaaa

namespace Go.Proofs.Ytgkakgibgfehaaa

theorem depR_short {ps : List Pl} {n d : Int} : (depR ps n d).length ≤ 5 := by
  unfold depR
  by_cases h : depOk ps n d = true
  · rw [if_pos h, depL_length]
    have hf : fitsB ps n = true := by unfold depOk at h; simp only [Bool.and_eq_true] at h; exact h.1
    have := fits_parts hf
    omega
  · rw [if_neg h]; simp
end Go.Proofs.Ytgkakgibgfehaaa

namespace Go.Proofs.Ytgkakgibgfehaaa
open Go.RowKit

attribute [local go_sem] Oper.semAt_some

theorem noneL_len (n : Nat) : (noneL n).length = n := by simp [noneL]
theorem nones_made (n : Nat) : (madeCells (Value.bool false).cells (n * 1)).toList = (noneL n).map Value.bool := by
  rw [show (Value.bool false).cells = #[.bool false] from rfl, toList_madeCells_one]; simp [noneL]
theorem bool_infoP : (Tq.prog.info? 4).map (fun i => (i.zero, i.size, i.bytes)) = some (some (.bool false), 1, 1) := by kernel_rfl
theorem nones_own {w : World} {base g n c : Nat} (h : w.ownsRow base 4 1 (.slice (some ⟨g, 0, none⟩) n c) n ((noneL n).map Value.bool)) (hn : n ≤ 1048600) (hc : n ≤ c) : IsBools w (some ⟨g, 0, none⟩) n c (noneL n) := by
  refine ⟨noneL_len n, hc, hn, fun hp => ⟨g, 0, rfl, (h.lt g rfl).2, fun j hj => ?_⟩⟩
  rw [Nat.zero_add, h.cellAt j (by omega)]
  simp [noneL, hj]
end Go.Proofs.Ytgkakgibgfehaaa

namespace Go.Proofs.Ytgkakgibgfehaaa
open Go.RowKit

theorem HasP.lt {w0 w : World} {ps : List Pl} {g cap : Nat} (h : HasP w0 w ps g cap) : g < w.heap.size := (h.1.lt g rfl).2

end Go.Proofs.Ytgkakgibgfehaaa

namespace Go.Proofs.Ytgkakgibgfehaaa
open Go.RowKit

attribute [local go_sem] Oper.semAt_some

set_option maxRecDepth 100000 in
set_option maxHeartbeats 4000000 in
/-- **l91Pairs**. -/
theorem l91Pairs_any (R p : Nat) (w : World) (h : Rd w R p) (hp : p + 3004 ≤ 1000000) :
    Calls Tq.prog 61 #[.pointer (some ⟨R, 0, none⟩)] w fun e w' => ∃ (ps : List Pl) (g cap p' n : Nat), e = .returned (.tuple #[.slice (some ⟨g, 0, none⟩) ps.length cap, .int .i64 (n : Int)]) ∧
      w'.ownsRow w.heap.size 48 2 (.slice (some ⟨g, 0, none⟩) ps.length cap) ps.length (cellsP ps) ∧ Small ps ∧ Few ps ∧ ps.length ≤ 13 ∧ n ≤ 6 ∧ Rd w' R p' ∧ Step R w w' ∧ p' ≤ p + 3004 := by
  have H := Lib.hid h; clear h
  go_enter Tq.func61, Tq.ntmps61
  go_wp2_with fail
  refine (pick_any R p 4 _ H.out (by omega) (by omega) (by omega)).mono ?_
  rintro e w1 ⟨d, rfl, hd, hr, hs⟩
  have R1 := Lib.hid hr
  have S1 := Lib.hid hs
  clear hr hs H
  go_wp2_with fail
  refine (pick_any R (p + 1) 12 _ R1.out (by omega) (by omega) (by omega)).mono ?_
  rintro e w2 ⟨d2, rfl, hd2, hr, hs⟩
  have R2 := Lib.hid hr
  have S2 := Lib.hid (S1.out.trans hs)
  clear hr hs R1 S1
  cases h0 : ((d2 : Int) == 0)
  · obtain ⟨N, hN⟩ : ∃ N : Nat, (2 : Int) + (d : Int) = (N : Int) ∧ 2 ≤ N ∧ N ≤ 5 := ⟨2 + d, by omega, by omega, by omega⟩
    obtain ⟨q, hq⟩ : ∃ q : Int, max (min (N : Int) 5) 1 = q ∧ 0 ≤ q ∧ q ≤ 7 := ⟨_, rfl, by omega, by omega⟩
    have e1 := hN.1
    have e2 := hq.1
    go_wp2_with fail
    refine (l91Piles_any R (p + 1 + 1) q _ R2.out (by omega) hq.2.1 hq.2.2).mono ?_
    rintro e w3 ⟨ps, g, c, p3, rfl, ho, hsm, hf, hl13, hr3, hp3, hs3⟩
    have HO := Lib.hid (World.ownsRow.mono ho S2.out.size)
    have HS := Lib.hid (S2.out.trans hs3)
    have HM := Lib.hid hsm
    have HF := Lib.hid hf
    have HR := Lib.hid hr3
    clear ho hsm hf hr3 hs3 R2 S2
    go_wp2
    go_ret2
    exact ⟨ps, g, c, p3, N, rfl, HO.out, HM.out, HF.out, hl13, by omega, HR.out, HS.out, by omega⟩
  · go_wp2_with fail
    refine (pick_any R (p + 1 + 1) 7 _ R2.out (by omega) (by omega) (by omega)).mono ?_
    rintro e w3 ⟨N, rfl, hN, hr, hs⟩
    have R3 := Lib.hid hr
    have S3 := Lib.hid (S2.out.trans hs)
    clear hr hs R2 S2
    obtain ⟨q, hq⟩ : ∃ q : Int, max (min (N : Int) 5) 1 = q ∧ 0 ≤ q ∧ q ≤ 7 := ⟨_, rfl, by omega, by omega⟩
    have e2 := hq.1
    go_wp2_with fail
    refine (l91Piles_any R (p + 1 + 1 + 1) q _ R3.out (by omega) hq.2.1 hq.2.2).mono ?_
    rintro e w4 ⟨ps, g, c, p3, rfl, ho, hsm, hf, hl13, hr3, hp3, hs3⟩
    have HO := Lib.hid (World.ownsRow.mono ho S3.out.size)
    have HS := Lib.hid (S3.out.trans hs3)
    have HM := Lib.hid hsm
    have HF := Lib.hid hf
    have HR := Lib.hid hr3
    clear ho hsm hf hr3 hs3 R3 S3
    go_wp2
    go_ret2
    exact ⟨ps, g, c, p3, N, rfl, HO.out, HM.out, HF.out, hl13, by omega, HR.out, HS.out, by omega⟩

end Go.Proofs.Ytgkakgibgfehaaa

namespace Go.Proofs.Ytgkakgibgfehaaa
open Go.RowKit

theorem owns_not {w w' : World} {R base n size : Nat} {e : TypeId} {v : Value} {xs : List Value} (h : w.ownsRow base e size v n xs) (hs : Step R w w') (hR : ∀ j, v.ownBlock = some j → j ≠ R) : w'.ownsRow base e size v n xs := by
  refine h.kept hs ?_
  cases hb : v.ownBlock with
  | none => exact .inl rfl
  | some k => right; intro e2; injection e2 with e3; exact hR k hb e3
end Go.Proofs.Ytgkakgibgfehaaa

namespace Go.Proofs.Ytgkakgibgfehaaa
open Go.RowKit

attribute [local go_sem] Oper.semAt_some

/-- -1, 5 or 6. -/
def q5 (d : Nat) : Int := if d = 0 then -1 else if d = 1 then 5 else 6
theorem q5_cell (w : World) (t : TypeId) (d : Nat) (h : d < 3) : (w.alloc (.cells #[.int .i64 (-1), .int .i64 5, .int .i64 6] t)).cell? ⟨w.heap.size, d, none⟩ = some (.int .i64 (q5 d)) := by
  refine (World.cell?_alloc_mark w _ t (0, 0) d).trans ?_
  have e : d = 0 ∨ d = 1 ∨ d = 2 := by omega
  rcases e with rfl | rfl | rfl <;> rfl
theorem q5_range (d : Nat) : -1 ≤ q5 d ∧ q5 d ≤ 6 := by
  unfold q5
  by_cases h0 : d = 0
  · rw [if_pos h0]; omega
  · rw [if_neg h0]
    by_cases h1 : d = 1
    · rw [if_pos h1]; omega
    · rw [if_neg h1]; omega
theorem step5_cell {R : Nat} {w w' : World} (h : Step R w w') {b o : Nat} {v : Value} (hb : b < w.heap.size) (hR : b ≠ R) (hc : w.cell? ⟨b, o, none⟩ = some v) : w'.cell? ⟨b, o, none⟩ = some v :=
  (World.cell?_of_block (h.block b hb (fun e => hR (by injection e)))).trans hc
theorem arr5_drew {R : Nat} {w w' : World} {t : TypeId} (hs : Step R (w.alloc (.cells #[.int .i64 (-1), .int .i64 5, .int .i64 6] t)).drew w') (hR : w.heap.size ≠ R) {d : Nat} (hd : d < 3) : w'.cell? ⟨w.heap.size, d, none⟩ = some (.int .i64 (q5 d)) :=
  step5_cell (Step.of_drew hs) (by simp) hR (q5_cell w t d hd)
theorem step5_over {R : Nat} {w w' : World} {o : Obj} (hs : Step R (w.alloc o).drew w') : Step R w w' := ((Step.refl R w).alloc o).trans (Step.of_drew hs)

/-- What is drawn. -/
def DrewD (w : World) (e : Ending) (w' : World) : Prop := ∃ (ps : List Pl) (g c n : Nat) (d : Int), e = .returned (.tuple #[.slice (some ⟨g, 0, none⟩) ps.length c, .int .i64 (n : Int), .int .i64 d]) ∧ HasP w w' ps g c ∧ n ≤ 6 ∧ -1 ≤ d ∧ d ≤ 6 ∧ Below w.heap.size w w'

set_option maxRecDepth 100000 in
set_option maxHeartbeats 4000000 in
/-- **DrawDepthCounts**. -/
theorem drawDepth_any (a : Option Addr) (len cap : Nat) (bs : List Int) (w : World) (h : IsBytes w a len bs) (hcap : len ≤ cap) (hl : len ≤ 1048600) :
    Calls Tq.prog 27 #[.slice a len cap] w (DrewD w) := by
  have H := Lib.hid h; clear h
  go_enter Tq.func27, Tq.ntmps27
  go_wp2_with fail
  refine (open_any a len cap bs _ H.out hcap hl).mono ?_
  rintro e w1 ⟨rfl, hr, hb⟩
  have hw1 := hr.1
  have R1 := Lib.hid hr
  have B1 := Lib.hid hb
  clear hr hb
  go_wp2_with fail
  refine (l91Pairs_any w.heap.size 0 _ R1.out (by omega)).mono ?_
  rintro e w2 ⟨ps, g, c, p2, n, rfl, ho, hsm, hf, hl13, hn6, hr2, hs, hp2⟩
  have HO := Lib.hid (ho.mono B1.out.size)
  have B2 := Lib.hid (B1.out.trans (hs.below (Nat.le_refl _) (Nat.le_of_lt hw1)))
  have HS := Lib.hid hsm
  have HF := Lib.hid hf
  have R2 := Lib.hid hr2
  have hw2 : w.heap.size < w2.heap.size := hr2.1
  have hg2 : g ≠ w.heap.size := by have := (ho.lt g rfl).1; omega
  clear ho hs hsm hf hr2 R1 B1
  go_wp2_with fail
  refine (pick_any w.heap.size p2 16 _ R2.out (by omega) (by omega) (by omega)).mono ?_
  rintro e w3 ⟨d3, rfl, hd3, hr, hs⟩
  have hnot : Hid (∀ j, (Value.slice (some ⟨g, 0, none⟩) ps.length c).ownBlock = some j → j ≠ w.heap.size) := fun j e => by have e : some g = some j := e; injection e with e; omega
  have HO3 := Lib.hid (owns_not HO.out hs hnot.out)
  have B3 := Lib.hid (B2.out.trans (hs.below (Nat.le_refl _) (Nat.le_of_lt hw2)))
  have R3 := Lib.hid hr
  have hw3 : w.heap.size < w3.heap.size := hr.1
  clear hr hs HO B2 R2
  cases h0 : ((d3 : Int) == 0)
  · go_wp2_with fail
    refine (pick_any w.heap.size (p2 + 1) 6 _ R3.out (by omega) (by omega) (by omega)).mono ?_
    rintro e w4 ⟨d4, rfl, hd4, hr, hs⟩
    have B4 := Lib.hid (B3.out.trans (hs.below (Nat.le_refl _) (Nat.le_of_lt hw3)))
    have HO4 := Lib.hid (owns_not HO3.out hs hnot.out)
    clear hr hs
    go_wp2
    refine bodyPost_ret (v := .tuple #[.slice (some ⟨g, 0, none⟩) ps.length c, .int .i64 (n : Int), .int .i64 (d4 : Int)]) (by simp [results, go_sem]) rfl ?_
    exact ⟨ps, g, c, n, d4, rfl, ⟨HO4.out, HS.out, HF.out, hl13⟩, hn6, by omega, by omega, B4.out⟩
  · have hne : w3.heap.size ≠ w.heap.size := by omega
    go_wp2_with fail
    go_region_law (first
      | (go_simp; go_at_call 48; refine (pick_any w.heap.size (p2 + 1) 3 _ ?_ (by omega) (by omega) (by omega)).mono ?_; (first | exact R3.out | exact R3.out.below ((Below.refl _ w3).alloc (Nat.le_refl _) _).drew); rintro e w4 ⟨d4, rfl, hd4, hr4, hs4⟩; (first
          | (have hq := arr5_drew hs4 hne (show d4 < 3 by omega); have S4 := Lib.hid (step5_over hs4); clear hr4 hs4)
          | (have hq := q5_cell w4 3 d4 (show d4 < 3 by omega); have S4 := Lib.hid (Step.of_drew hs4); clear hr4 hs4))))
    all_goals
      have hqr := q5_range d4
      have B4 := Lib.hid (B3.out.trans (S4.out.below (Nat.le_refl _) (Nat.le_of_lt hw3)))
      have hB4 := B4.out.size
      have HO4 := Lib.hid (owns_not HO3.out S4.out hnot.out)
      clear hq
      go_wp2
      refine bodyPost_ret (v := .tuple #[.slice (some ⟨g, 0, none⟩) ps.length c, .int .i64 (n : Int), .int .i64 (q5 d4)]) (by simp [results, go_sem]) rfl ?_
      first
        | exact ⟨ps, g, c, n, q5 d4, rfl, ⟨HO4.out, HS.out, HF.out, hl13⟩, hn6, hqr.1, hqr.2, B4.out⟩
        | exact ⟨ps, g, c, n, q5 d4, rfl, ⟨HO4.out.alloc _, HS.out, HF.out, hl13⟩, hn6, hqr.1, hqr.2, B4.out.alloc hB4 _⟩

end Go.Proofs.Ytgkakgibgfehaaa

namespace Go.Proofs.Ytgkakgibgfehaaa

abbrev Fr := Int × Int
/-- Two fractions are one number. -/
def SameF (a b : Fr) : Prop := a.1 * b.2 = b.1 * a.2

theorem SameF.symm {a b : Fr} (h : SameF a b) : SameF b a := by unfold SameF at *; rw [h]
theorem SameF.trans {a b c : Fr} (hb : b.2 ≠ 0) (h : SameF a b) (k : SameF b c) : SameF a c := by
  unfold SameF at *
  apply Int.eq_of_mul_eq_mul_right hb
  calc a.1 * c.2 * b.2 = (a.1 * b.2) * c.2 := by rw [Int.mul_assoc, Int.mul_comm c.2, ← Int.mul_assoc]
    _ = (b.1 * c.2) * a.2 := by rw [h, Int.mul_assoc, Int.mul_comm a.2, ← Int.mul_assoc]
    _ = c.1 * a.2 * b.2 := by rw [k, Int.mul_assoc, Int.mul_comm b.2, ← Int.mul_assoc]
end Go.Proofs.Ytgkakgibgfehaaa

namespace Go.Proofs.Ytgkakgibgfehaaa
open Go.RowKit

theorem tot_take {zs : List Int} {k : Nat} (h : k < zs.length) : totI (zs.take (k + 1)) = totI (zs.take k) + zs[k]?.getD 0 := by
  have e : zs[k]?.getD 0 = zs[k] := by simp [h]
  rw [List.take_succ_eq_append_getElem h, totI_snoc, e]
theorem tot_bound {zs : List Int} {m : Int} (hm : 0 ≤ m) {n : Nat} (hb : ∀ x : Nat, x < n → 0 ≤ zs[x]?.getD 0 ∧ zs[x]?.getD 0 ≤ m) : ∀ k, k ≤ n → 0 ≤ totI (zs.take k) ∧ totI (zs.take k) ≤ m * (k : Int)
  | 0, _ => by simp [totI_nil]
  | k + 1, h => by
    have ih := tot_bound hm hb k (by omega)
    have := hb k (by omega)
    have e : m * ((k + 1 : Nat) : Int) = m * (k : Int) + m := by rw [Int.natCast_add, Int.mul_add]; simp
    by_cases hk : k < zs.length
    · rw [tot_take hk, e]
      omega
    · have e2 : zs.take (k + 1) = zs.take k := by rw [List.take_of_length_le (by omega), List.take_of_length_le (by omega)]
      rw [e2, e]; omega

end Go.Proofs.Ytgkakgibgfehaaa

namespace Go.Proofs.Ytgkakgibgfehaaa
open Go.RowKit

set_option maxHeartbeats 2000000 in
/-- **sumOf**. -/
theorem lawSum_as (a : Option Addr) (len cap : Nat) (zs : List Int) (s : Int) (w : World) (h : IsInts w a len cap zs) (hl : len ≤ 20) (hb : ∀ x : Nat, x < len → 0 ≤ zs[x]?.getD 0 ∧ zs[x]?.getD 0 ≤ 100000) (hs : totI zs = s) :
    Calls Tq.prog 18 #[.slice a len cap] w fun e w' => e = .returned (.int .i64 s) ∧ w = w' := by
  obtain ⟨h1, h2, h3, h4⟩ := h
  have H1 := Lib.hid h1
  have H4 := Lib.hid h4
  have HB := Lib.hid hb
  have HS := Lib.hid hs
  clear h1 h4 hb hs
  go_enter Tq.func18, Tq.ntmps18
  go_wp2
  go_loop [3, 4] (fun nv iv => ∃ (i : Nat) (t : Int), i ≤ len ∧ iv = .int .i64 (i : Int) ∧ nv = .int .i64 t ∧ Hid (totI (zs.take i) = t)) (fun _ iv => len - (intOf iv).toNat)
  case atStart => exact ⟨0, 0, Nat.zero_le _, rfl, rfl, by unfold Hid; simp [totI_nil]⟩
  case round =>
    obtain ⟨i, t, hil, rfl, rfl, hT⟩ := hrel
    by_cases hlt : i < len
    · obtain ⟨b, off, rfl, hb, hc⟩ := H4.out (by omega)
      have ci := hc i hlt
      obtain ⟨z, hz⟩ : ∃ z, zs[i]?.getD 0 = z := ⟨_, rfl⟩
      have hzb := HB.out i hlt
      have htb := tot_bound (m := 100000) (by omega) HB.out i (by omega)
      rw [hT.out] at htb
      rw [hz] at ci hzb
      have HT2 : Hid (totI (zs.take (i + 1)) = t + z) := by rw [Hid, tot_take (by rw [H1.out]; exact hlt), hz, hT.out]
      clear hc hz
      go_wp2
      go_round
      case rel => exact ⟨i + 1, t + z, by omega, by go_num, rfl, HT2⟩
      case measure => simp [intOf]; omega
    · obtain rfl : i = len := by omega
      have HE : Hid (t = s) := by rw [Hid, ← HS.out, ← hT.out, List.take_of_length_le (by rw [H1.out]; exact Nat.le_refl _)]
      go_wp2
      go_ret
      exact ⟨ret_int HE.out, rfl⟩

end Go.Proofs.Ytgkakgibgfehaaa

