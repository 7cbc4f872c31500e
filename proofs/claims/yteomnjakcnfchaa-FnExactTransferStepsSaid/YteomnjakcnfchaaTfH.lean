/-
  The exact laws' own functions over fractions: marking them, and finding the marks again.
-/
import Derived.Test.YteomnjakcnfchaaGrp14
namespace Go.Proofs.Yteomnjakcnfchaa
open Go.RowKit

attribute [local go_sem] Oper.semAt_some

theorem blk_other9 {w : World} {g k i : Nat} {v : Value} (hne : k ≠ g) : (w.setCell ⟨g, i, none⟩ v).heap[k]? = w.heap[k]? := Below.heap_setCell _ _ _ _ hne
/-- Marks from k on, two a fraction; the first j of n are marked. -/
def markFr (cs : List Fr) (k : Int) (n j : Nat) : List Fr := (List.range n).map fun i => if i < j then (k + 2 * (i : Int), k + 2 * (i : Int) + 1) else fAt cs i
def marksF (k : Int) (n : Nat) : List Fr := (List.range n).map fun (i : Nat) => (k + 2 * (i : Int), k + 2 * (i : Int) + 1)
theorem markFr_zero {cs : List Fr} {k : Int} {n : Nat} (h : cs.length = n) : markFr cs k n 0 = cs := by
  refine List.ext_getElem (by simp [markFr, h]) (fun i h1 h2 => ?_)
  simp [markFr, fAt, h2]
theorem markFr_all (cs : List Fr) (k : Int) (n : Nat) : markFr cs k n n = marksF k n := by
  refine List.ext_getElem (by simp [markFr, marksF]) (fun i h1 h2 => ?_)
  have : i < n := by simpa [markFr] using h1
  simp [markFr, marksF, this]
theorem markFr_next {cs : List Fr} {k : Int} {n j : Nat} : (markFr cs k n j).set j (k + 2 * (j : Int), k + 2 * (j : Int) + 1) = markFr cs k n (j + 1) := by
  refine List.ext_getElem (by simp [markFr]) (fun i h1 h2 => ?_)
  rw [List.getElem_set]
  simp only [markFr, List.getElem_map, List.getElem_range]
  by_cases e : j = i
  · subst e; simp
  · rw [if_neg e]
    by_cases g : i < j
    · rw [if_pos g, if_pos (by omega)]
    · rw [if_neg g, if_neg (by omega)]
theorem marksF_at {k : Int} {n j : Nat} (h : j < n) : fAt (marksF k n) j = (k + 2 * (j : Int), k + 2 * (j : Int) + 1) := by simp [fAt, marksF, h]

set_option maxRecDepth 100000 in
set_option maxHeartbeats 2000000 in
/-- **markFracS**. -/
theorem markFracS_any (base g n c : Nat) (cs : List Fr) (k : Int) (w : World) (h : w.ownsRow base 42 2 (.slice (some ⟨g, 0, none⟩) n c) n (cellsF cs)) (hl : n ≤ 1048600) (hk0 : 0 ≤ k) (hk : k ≤ 1000000000000) :
    Calls Try.prog 72 #[.slice (some ⟨g, 0, none⟩) n c, .int .i64 k] w fun e w' => e = .returned (.int .i64 (k + 2 * (n : Int))) ∧ w'.ownsRow base 42 2 (.slice (some ⟨g, 0, none⟩) n c) n (cellsF (marksF k n)) ∧ w.grownBy w' (some g) := by
  have hcl : cs.length = n := by have h1 := h.1; rw [cellsF_length] at h1; omega
  have H := Lib.hid h
  have HC := Lib.hid hcl
  clear h hcl
  go_enter Try.func72, Try.ntmps72
  go_wp2
  go_loopw [1, 5] (fun qv iv wr => ∃ j : Nat, j ≤ n ∧ iv = .int .i64 (j : Int) ∧ qv = .int .i64 (k + 2 * (j : Int)) ∧ Hid (wr.ownsRow base 42 2 (.slice (some ⟨g, 0, none⟩) n c) n (cellsF (markFr cs k n j))) ∧ Hid (w.grownBy wr (some g))) (fun _ iv _ => n - (intOf iv).toNat)
  case atStart => exact ⟨0, Nat.zero_le _, rfl, by simp, by unfold Hid; rw [markFr_zero HC.out]; exact H.out, ⟨rfl, rfl, rfl, Nat.le_refl _, fun _ _ _ => rfl⟩⟩
  case round =>
    obtain ⟨j, hj, rfl, rfl, hO, hg⟩ := hrel
    by_cases hlt : j < n
    · have hji : (j : Int) < (n : Int) := by omega
      obtain ⟨x, hx⟩ : ∃ x : Int, k + 2 * (j : Int) = x := ⟨_, rfl⟩
      have hxr : 0 ≤ x ∧ x ≤ 1000003000000 := by omega
      have hw1 : IntKind.i64.wrap (x + 1) = x + 1 := IntWalk.i64_in _ (by omega)
      have hw2 : IntKind.i64.wrap (x + 1 + 1) = x + 1 + 1 := IntWalk.i64_in _ (by omega)
      obtain ⟨⟨m0, m1⟩, m2, m3⟩ := meets_setF hO.out hlt (.int .i64 x)
      obtain ⟨O4', G4⟩ := owns_setF hO.out j x (x + 1)
      have O4 : Hid (((wr.setCell ⟨g, j * 2, none⟩ (.int .i64 x)).setCell ⟨g, j * 2 + 1, none⟩ (.int .i64 (x + 1))).ownsRow base 42 2 (.slice (some ⟨g, 0, none⟩) n c) n (cellsF (markFr cs k n (j + 1)))) := by
        unfold Hid; rw [← markFr_next, hx]; exact O4'
      have G5 : Hid (w.grownBy ((wr.setCell ⟨g, j * 2, none⟩ (.int .i64 x)).setCell ⟨g, j * 2 + 1, none⟩ (.int .i64 (x + 1))) (some g)) :=
        ⟨hg.out.os, hg.out.tape, hg.out.output, by simp [World.setCell]; exact hg.out.size, fun i hi hne => (blk_other9 (fun e => hne (by rw [e]))).trans ((blk_other9 (fun e => hne (by rw [e]))).trans (hg.out.block i hi hne))⟩
      rw [hx]
      clear O4' G4 hO hg
      go_wp2
      go_roundw
      case rel => exact ⟨j + 1, by omega, by go_num, by push_cast; rw [← hx]; congr 1; omega, O4, G5⟩
      case measure => simp [intOf]; omega
    · obtain rfl : j = n := by omega
      rw [markFr_all] at hO
      go_wp2
      go_ret
      exact ⟨rfl, hO.out, hg.out⟩

set_option maxRecDepth 100000 in
set_option maxHeartbeats 2000000 in
/-- **heldFracS**. -/
theorem heldFracS_any (a : Option Addr) (n c : Nat) (k : Int) (w : World) (h : IsFr w a n c (marksF k n)) (hk0 : 0 ≤ k) (hk : k ≤ 1000000000000) :
    Calls Try.prog 73 #[.slice a n c, .int .i64 k] w fun e w' => e = .returned (.int .i64 (k + 2 * (n : Int))) ∧ w = w' := by
  have hm := h.2.2.1
  have H4 := Lib.hid h.2.2.2; clear h
  go_enter Try.func73, Try.ntmps73
  go_wp2
  go_loop [1, 5] (fun q i => ∃ j : Nat, j ≤ n ∧ i = .int .i64 j ∧ q = .int .i64 (k + 2 * (j : Int))) (fun _ i => n - (intOf i).toNat)
  case atStart => exact ⟨0, Nat.zero_le _, rfl, by simp⟩
  case round =>
    obtain ⟨j, hj, rfl, rfl⟩ := hrel
    by_cases hlt : j < n
    · obtain ⟨b, o, rfl, hb, hc⟩ := H4.out (by omega)
      have hz := hc j hlt
      rw [marksF_at hlt] at hz
      obtain ⟨x, hx⟩ : ∃ x : Int, k + 2 * (j : Int) = x := ⟨_, rfl⟩
      rw [hx] at hz
      have z0 : w.cell? ⟨b, o + j * 2, none⟩ = some (.int .i64 x) := hz.1
      have z1 : w.cell? ⟨b, o + j * 2 + 1, none⟩ = some (.int .i64 (x + 1)) := hz.2
      have hxr : 0 ≤ x ∧ x ≤ 1000003000000 := by omega
      have hw1 : IntKind.i64.wrap (x + 1) = x + 1 := IntWalk.i64_in _ (by omega)
      have hw2 : IntKind.i64.wrap (x + 1 + 1) = x + 1 + 1 := IntWalk.i64_in _ (by omega)
      have hne : (x != x) = false := by simp
      have hne1 : (x + 1 != x + 1) = false := by simp
      rw [hx]
      clear hc hz
      go_wp2
      go_round
      case rel => exact ⟨j + 1, by omega, by go_num, by push_cast; rw [← hx]; congr 1; omega⟩
      case measure => simp [intOf]; omega
    · obtain rfl : j = n := by omega
      go_wp2
      go_ret
      exact ⟨rfl, rfl⟩

end Go.Proofs.Yteomnjakcnfchaa
