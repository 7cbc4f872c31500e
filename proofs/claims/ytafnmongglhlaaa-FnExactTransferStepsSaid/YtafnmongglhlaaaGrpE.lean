/-
  The exact laws' own functions over fractions: marking them, and finding the marks again.
  The exact laws' own functions over steps: marking them, and finding the marks again.
-/
import Derived.Test.YtafnmongglhlaaaGrp14
namespace Go.Proofs.Ytafnmongglhlaaa
open Go.RowKit

attribute [local go_sem] Oper.semAt_some

theorem blk_other9 {w : World} {g k i : Nat} {v : Value} (hne : k ≠ g) : (w.setCell ⟨g, i, none⟩ v).heap[k]? = w.heap[k]? := Below.heap_setCell _ _ _ _ hne
/-- Marks from k on, two a fraction; the first j of n are marked. -/
def markFr (cs : List Fr) (k : Int) (n j : Nat) : List Fr := (List.range n).map fun i => if i < j then (k + 2 * (i : Int), k + 2 * (i : Int) + 1) else fAt cs i
def marksF (k : Int) (n : Nat) : List Fr := (List.range n).map fun (i : Nat) => (k + 2 * (i : Int), k + 2 * (i : Int) + 1)
theorem markFr_zero {cs : List Fr} {k : Int} {n : Nat} (h : cs.length = n) : markFr cs k n 0 = cs := by
  refine List.ext_getElem (by simp [markFr, h]) (fun i h1 h2 => ?_)
  simp [markFr, fAt, h2]
theorem markFr_all (cs : List Fr) (k : Int) (n : Nat) : markFr cs k n n = marksF k n := by
  refine List.ext_getElem (by simp [markFr, marksF]) (fun i h1 h2 => ?_)
  have : i < n := by simpa [markFr] using h1
  simp [markFr, marksF, this]
theorem markFr_next {cs : List Fr} {k : Int} {n j : Nat} : (markFr cs k n j).set j (k + 2 * (j : Int), k + 2 * (j : Int) + 1) = markFr cs k n (j + 1) := by
  refine List.ext_getElem (by simp [markFr]) (fun i h1 h2 => ?_)
  rw [List.getElem_set]
  simp only [markFr, List.getElem_map, List.getElem_range]
  by_cases e : j = i
  · subst e; simp
  · rw [if_neg e]
    by_cases g : i < j
    · rw [if_pos g, if_pos (by omega)]
    · rw [if_neg g, if_neg (by omega)]
theorem marksF_at {k : Int} {n j : Nat} (h : j < n) : fAt (marksF k n) j = (k + 2 * (j : Int), k + 2 * (j : Int) + 1) := by simp [fAt, marksF, h]

set_option maxRecDepth 100000 in
set_option maxHeartbeats 2000000 in
/-- **markFracS**. -/
theorem markFracS_any (base g n c : Nat) (cs : List Fr) (k : Int) (w : World) (h : w.ownsRow base 40 2 (.slice (some ⟨g, 0, none⟩) n c) n (cellsF cs)) (hl : n ≤ 1048600) (hk0 : 0 ≤ k) (hk : k ≤ 1000000000000) :
    Calls Try.prog 69 #[.slice (some ⟨g, 0, none⟩) n c, .int .i64 k] w fun e w' => e = .returned (.int .i64 (k + 2 * (n : Int))) ∧ w'.ownsRow base 40 2 (.slice (some ⟨g, 0, none⟩) n c) n (cellsF (marksF k n)) ∧ w.grownBy w' (some g) := by
  have hcl : cs.length = n := by have h1 := h.1; rw [cellsF_length] at h1; omega
  have H := Lib.hid h
  have HC := Lib.hid hcl
  clear h hcl
  go_enter Try.func69, Try.ntmps69
  go_wp2
  go_loopw [1, 5] (fun qv iv wr => ∃ j : Nat, j ≤ n ∧ iv = .int .i64 (j : Int) ∧ qv = .int .i64 (k + 2 * (j : Int)) ∧ Hid (wr.ownsRow base 40 2 (.slice (some ⟨g, 0, none⟩) n c) n (cellsF (markFr cs k n j))) ∧ Hid (w.grownBy wr (some g))) (fun _ iv _ => n - (intOf iv).toNat)
  case atStart => exact ⟨0, Nat.zero_le _, rfl, by simp, by unfold Hid; rw [markFr_zero HC.out]; exact H.out, ⟨rfl, rfl, rfl, Nat.le_refl _, fun _ _ _ => rfl⟩⟩
  case round =>
    obtain ⟨j, hj, rfl, rfl, hO, hg⟩ := hrel
    by_cases hlt : j < n
    · have hji : (j : Int) < (n : Int) := by omega
      obtain ⟨x, hx⟩ : ∃ x : Int, k + 2 * (j : Int) = x := ⟨_, rfl⟩
      have hxr : 0 ≤ x ∧ x ≤ 1000003000000 := by omega
      have hw1 : IntKind.i64.wrap (x + 1) = x + 1 := IntWalk.i64_in _ (by omega)
      have hw2 : IntKind.i64.wrap (x + 1 + 1) = x + 1 + 1 := IntWalk.i64_in _ (by omega)
      obtain ⟨⟨m0, m1⟩, m2, m3⟩ := meets_setF hO.out hlt (.int .i64 x)
      obtain ⟨O4', G4⟩ := owns_setF hO.out j x (x + 1)
      have O4 : Hid (((wr.setCell ⟨g, j * 2, none⟩ (.int .i64 x)).setCell ⟨g, j * 2 + 1, none⟩ (.int .i64 (x + 1))).ownsRow base 40 2 (.slice (some ⟨g, 0, none⟩) n c) n (cellsF (markFr cs k n (j + 1)))) := by
        unfold Hid; rw [← markFr_next, hx]; exact O4'
      have G5 : Hid (w.grownBy ((wr.setCell ⟨g, j * 2, none⟩ (.int .i64 x)).setCell ⟨g, j * 2 + 1, none⟩ (.int .i64 (x + 1))) (some g)) :=
        ⟨hg.out.os, hg.out.tape, hg.out.output, by simp [World.setCell]; exact hg.out.size, fun i hi hne => (blk_other9 (fun e => hne (by rw [e]))).trans ((blk_other9 (fun e => hne (by rw [e]))).trans (hg.out.block i hi hne))⟩
      rw [hx]
      clear O4' G4 hO hg
      go_wp2
      go_roundw
      case rel => exact ⟨j + 1, by omega, by go_num, by push_cast; rw [← hx]; congr 1; omega, O4, G5⟩
      case measure => simp [intOf]; omega
    · obtain rfl : j = n := by omega
      rw [markFr_all] at hO
      go_wp2
      go_ret
      exact ⟨rfl, hO.out, hg.out⟩

set_option maxRecDepth 100000 in
set_option maxHeartbeats 2000000 in
/-- **heldFracS**. -/
theorem heldFracS_any (a : Option Addr) (n c : Nat) (k : Int) (w : World) (h : IsFr w a n c (marksF k n)) (hk0 : 0 ≤ k) (hk : k ≤ 1000000000000) :
    Calls Try.prog 70 #[.slice a n c, .int .i64 k] w fun e w' => e = .returned (.int .i64 (k + 2 * (n : Int))) ∧ w = w' := by
  have hm := h.2.2.1
  have H4 := Lib.hid h.2.2.2; clear h
  go_enter Try.func70, Try.ntmps70
  go_wp2
  go_loop [1, 5] (fun q i => ∃ j : Nat, j ≤ n ∧ i = .int .i64 j ∧ q = .int .i64 (k + 2 * (j : Int))) (fun _ i => n - (intOf i).toNat)
  case atStart => exact ⟨0, Nat.zero_le _, rfl, by simp⟩
  case round =>
    obtain ⟨j, hj, rfl, rfl⟩ := hrel
    by_cases hlt : j < n
    · obtain ⟨b, o, rfl, hb, hc⟩ := H4.out (by omega)
      have hz := hc j hlt
      rw [marksF_at hlt] at hz
      obtain ⟨x, hx⟩ : ∃ x : Int, k + 2 * (j : Int) = x := ⟨_, rfl⟩
      rw [hx] at hz
      have z0 : w.cell? ⟨b, o + j * 2, none⟩ = some (.int .i64 x) := hz.1
      have z1 : w.cell? ⟨b, o + j * 2 + 1, none⟩ = some (.int .i64 (x + 1)) := hz.2
      have hxr : 0 ≤ x ∧ x ≤ 1000003000000 := by omega
      have hw1 : IntKind.i64.wrap (x + 1) = x + 1 := IntWalk.i64_in _ (by omega)
      have hw2 : IntKind.i64.wrap (x + 1 + 1) = x + 1 + 1 := IntWalk.i64_in _ (by omega)
      have hne : (x != x) = false := by simp
      have hne1 : (x + 1 != x + 1) = false := by simp
      rw [hx]
      clear hc hz
      go_wp2
      go_round
      case rel => exact ⟨j + 1, by omega, by go_num, by push_cast; rw [← hx]; congr 1; omega⟩
      case measure => simp [intOf]; omega
    · obtain rfl : j = n := by omega
      go_wp2
      go_ret
      exact ⟨rfl, rfl⟩

end Go.Proofs.Ytafnmongglhlaaa

namespace Go.Proofs.Ytafnmongglhlaaa
open Go.RowKit

attribute [local go_sem] Oper.semAt_some

theorem some_of_owns9 {w : World} {b n size : Nat} {e : TypeId} {v : Value} {xs : List Value} (h : w.ownsRow b e size v n xs) (hn : 0 < n) : ∃ g c, v = .slice (some ⟨g, 0, none⟩) n c := by
  rcases h.2 with ⟨_, h0⟩ | ⟨g, c, cur, e1, _⟩
  · omega
  · exact ⟨g, c, e1⟩
theorem cellsS_set_counts (n : Nat) : ∀ (gs : List (Nat × Nat)) (ss : List TfStp) (j : Nat) (cs : List Fr) (x : Int) (k : Nat) (c0 : List Fr), ss[j]? = some (c0, x, k) → cellsS n gs (ss.set j (cs, x, k)) = cellsS n gs ss
  | [], _, _, _, _, _, _, _ => by simp [cellsS]
  | _ :: _, [], _, _, _, _, _, _ => by simp [cellsS]
  | g :: gs, s :: ss, 0, cs, x, k, c0, h => by
    simp at h
    subst h
    simp [cellsS]
  | g :: gs, s :: ss, j + 1, cs, x, k, c0, h => by
    simp only [List.set_cons_succ, cellsS]
    rw [cellsS_set_counts n gs ss j cs x k c0 (by simpa using h)]
theorem cellsS_set_nums (n : Nat) : ∀ (gs : List (Nat × Nat)) (ss : List TfStp) (j : Nat) (x : Int) (k : Nat) (s : TfStp), gs.length = ss.length → ss[j]? = some s → ((cellsS n gs ss).set (j * 3 + 1) (.int .i64 x)).set (j * 3 + 2) (.int .i64 (k : Int)) = cellsS n gs (ss.set j (s.1, x, k))
  | [], [], _, _, _, _, _, h => by simp at h
  | g :: gs, s :: ss, 0, x, k, s', hl, h => by
    simp at h
    subst h
    simp [cellsS]
  | g :: gs, s :: ss, j + 1, x, k, s', hl, h => by
    have h1 := cellsS_set_nums n gs ss j x k s' (by simpa using hl) (by simpa using h)
    rw [show (j + 1) * 3 + 1 = (j * 3 + 1) + 1 + 1 + 1 by omega, show (j + 1) * 3 + 2 = (j * 3 + 2) + 1 + 1 + 1 by omega]
    simp only [List.set_cons_succ, cellsS]
    rw [← h1]
theorem OwnSt.setRow {w w' : World} {base n cap j : Nat} {a : Option Addr} {gs : List (Nat × Nat)} {ss : List TfStp} {g : Nat × Nat} {c0 cs : List Fr} {x : Int} {k : Nat} (h : OwnSt w base a cap n gs ss) (hg : gs[j]? = some g) (hs : ss[j]? = some (c0, x, k)) (hgr : w.grownBy w' (some g.1))
    (hnew : w'.ownsRow base 40 2 (.slice (some ⟨g.1, 0, none⟩) n g.2) n (cellsF cs)) : OwnSt w' base a cap n gs (ss.set j (cs, x, k)) := by
  have hrow := h.inner j g _ hg hs
  refine ⟨by rw [List.length_set]; exact h.len, ?_, fun i g' s' hi hs' => ?_, h.apart⟩
  · rw [List.length_set, cellsS_set_counts n gs ss j cs x k c0 hs]
    exact h.outer.kept hgr (owns_apart (by decide) h.outer hrow)
  · rw [List.getElem?_set] at hs'
    by_cases e : j = i
    · subst e
      rw [if_pos rfl] at hs'
      have e1 : g' = g := by rw [hg] at hi; injection hi with hi; exact hi.symm
      subst e1
      split at hs'
      · injection hs' with hs'; subst hs'; exact hnew
      · cases hs'
    · rw [if_neg e] at hs'
      refine (h.inner i g' s' hi hs').kept hgr (.inr fun e1 => e ?_)
      have e2 : (some g'.1 : Option Nat) = some g.1 := e1
      injection e2 with e2
      have q1 : (gs.map fun g => g.1)[j]? = some g.1 := by rw [List.getElem?_map, hg]; rfl
      have q2 : (gs.map fun g => g.1)[i]? = some g.1 := by rw [List.getElem?_map, hi, ← e2]; rfl
      have hjl : j < (gs.map fun g => g.1).length := (List.getElem?_eq_some_iff.1 q1).1
      exact (List.getElem?_inj hjl h.apart).1 (q1.trans q2.symm)
theorem OwnSt.setNums {w : World} {base n cap j b : Nat} {gs : List (Nat × Nat)} {ss : List TfStp} {s : TfStp} (h : OwnSt w base (some ⟨b, 0, none⟩) cap n gs ss) (hs : ss[j]? = some s) (x : Int) (k : Nat) :
    OwnSt ((w.setCell ⟨b, j * 3 + 1, none⟩ (.int .i64 x)).setCell ⟨b, j * 3 + 2, none⟩ (.int .i64 (k : Int))) base (some ⟨b, 0, none⟩) cap n gs (ss.set j (s.1, x, k)) ∧ w.grownBy ((w.setCell ⟨b, j * 3 + 1, none⟩ (.int .i64 x)).setCell ⟨b, j * 3 + 2, none⟩ (.int .i64 (k : Int))) (some b) := by
  have h1 := h.outer.stored (j * 3 + 1) (.int .i64 x)
  have h2 := h1.1.stored (j * 3 + 2) (.int .i64 (k : Int))
  rw [cellsS_set_nums n gs ss j x k s h.len hs] at h2
  have hgr : w.grownBy ((w.setCell ⟨b, j * 3 + 1, none⟩ (.int .i64 x)).setCell ⟨b, j * 3 + 2, none⟩ (.int .i64 (k : Int))) (some b) :=
    ⟨h2.2.os.trans h1.2.os, h2.2.tape.trans h1.2.tape, h2.2.output.trans h1.2.output, Nat.le_trans h1.2.size h2.2.size, fun i hi hne => (h2.2.block i (Nat.lt_of_lt_of_le hi h1.2.size) hne).trans (h1.2.block i hi hne)⟩
  refine ⟨⟨by rw [List.length_set]; exact h.len, by rw [List.length_set]; exact h2.1, fun i g' s' hi hs' => ?_, h.apart⟩, hgr⟩
  rw [List.getElem?_set] at hs'
  have hkeep : ∀ (i : Nat) (g' : Nat × Nat) (s' : TfStp), gs[i]? = some g' → ss[i]? = some s' → _ := fun i g' s' a1 a2 => (h.inner i g' s' a1 a2).kept hgr (owns_apart (by decide) (h.inner i g' s' a1 a2) h.outer)
  by_cases e : j = i
  · subst e
    rw [if_pos rfl] at hs'
    split at hs'
    · injection hs' with hs'; subst hs'; exact hkeep j g' s hi hs
    · cases hs'
  · rw [if_neg e] at hs'
    exact hkeep i g' s' hi hs'
/-- What a marked step holds. -/
def markStp (k : Int) (n : Nat) (j : Nat) : TfStp := (marksF (k + (j : Int) * (2 * (n : Int) + 2)) n, k + (j : Int) * (2 * (n : Int) + 2) + 2 * (n : Int), (k + (j : Int) * (2 * (n : Int) + 2) + 2 * (n : Int) + 1).toNat)
def markSt (ss : List TfStp) (k : Int) (n m j : Nat) : List TfStp := (List.range m).map fun i => if i < j then markStp k n i else ss[i]?.getD ([], 0, 0)
def marksSt (k : Int) (n m : Nat) : List TfStp := (List.range m).map (markStp k n)
theorem markSt_zero {ss : List TfStp} {k : Int} {n m : Nat} (h : ss.length = m) : markSt ss k n m 0 = ss := by
  refine List.ext_getElem (by simp [markSt, h]) (fun i h1 h2 => ?_)
  simp [markSt, h2]
theorem markSt_all (ss : List TfStp) (k : Int) (n m : Nat) : markSt ss k n m m = marksSt k n m := by
  refine List.ext_getElem (by simp [markSt, marksSt]) (fun i h1 h2 => ?_)
  have : i < m := by simpa [markSt] using h1
  simp [markSt, marksSt, this]
theorem markSt_next {ss : List TfStp} {k : Int} {n m j : Nat} : (markSt ss k n m j).set j (markStp k n j) = markSt ss k n m (j + 1) := by
  refine List.ext_getElem (by simp [markSt]) (fun i h1 h2 => ?_)
  rw [List.getElem_set]
  simp only [markSt, List.getElem_map, List.getElem_range]
  by_cases e : j = i
  · subst e; simp
  · rw [if_neg e]
    by_cases g : i < j
    · rw [if_pos g, if_pos (by omega)]
    · rw [if_neg g, if_neg (by omega)]

theorem markSt_at {ss : List TfStp} {k : Int} {n m j : Nat} (h : j < m) : (markSt ss k n m j)[j]? = some (ss[j]?.getD ([], 0, 0)) := by simp [markSt, h]
theorem markSt_length (ss : List TfStp) (k : Int) (n m j : Nat) : (markSt ss k n m j).length = m := by simp [markSt]
theorem mul_small {n j : Nat} (hn : n ≤ 5) (hj : j ≤ 5) : 0 ≤ (j : Int) * (2 * (n : Int) + 2) ∧ (j : Int) * (2 * (n : Int) + 2) ≤ 60 := by
  refine ⟨Int.mul_nonneg (by omega) (by omega), ?_⟩
  exact Int.le_trans (Int.mul_le_mul_of_nonneg_right (show (j : Int) ≤ 5 by omega) (by omega)) (by omega)
theorem mul_next (n j : Nat) : ((j + 1 : Nat) : Int) * (2 * (n : Int) + 2) = (j : Int) * (2 * (n : Int) + 2) + 2 * (n : Int) + 2 := by push_cast; rw [Int.add_mul]; omega

set_option maxRecDepth 100000 in
set_option maxHeartbeats 2000000 in
/-- **markStepS**. -/
theorem markStepS_any (base n cap m : Nat) (a : Option Addr) (gs : List (Nat × Nat)) (ss : List TfStp) (k : Int) (w : World) (h : OwnSt w base a cap n gs ss) (hm : ss.length = m) (hl : m ≤ 5) (hn : 0 < m → n ≤ 5) (hk0 : 0 ≤ k) (hk : k ≤ 1000) :
    Calls Try.prog 42 #[.slice a m cap, .int .i64 k] w fun e w' => e = .returned (.int .i64 (k + (m : Int) * (2 * (n : Int) + 2))) ∧ OwnSt w' base a cap n gs (marksSt k n m) ∧ Below base w w' := by
  have H := Lib.hid h
  have HM := Lib.hid hm
  clear h hm
  go_enter Try.func42, Try.ntmps42
  go_wp2
  go_loopw [1, 5] (fun qv iv wr => ∃ j : Nat, j ≤ m ∧ iv = .int .i64 (j : Int) ∧ qv = .int .i64 (k + (j : Int) * (2 * (n : Int) + 2)) ∧ Hid (OwnSt wr base a cap n gs (markSt ss k n m j)) ∧ Hid (Below base w wr)) (fun _ iv _ => m - (intOf iv).toNat)
  case atStart => exact ⟨0, Nat.zero_le _, rfl, by simp, by unfold Hid; rw [markSt_zero HM.out]; exact H.out, Below.refl _ _⟩
  case round =>
    obtain ⟨j, hj, rfl, rfl, hO, hB⟩ := hrel
    by_cases hlt : j < m
    · have hn := hn (by omega)
      have hji : (j : Int) < (m : Int) := by omega
      have hmx := mul_next n j
      have hsm := mul_small hn (show j ≤ 5 by omega)
      obtain ⟨st, hst⟩ : ∃ st, ss[j]?.getD ([], 0, 0) = st := ⟨_, rfl⟩
      obtain ⟨c0, x0, k0⟩ := st
      have h1 := markSt_at (ss := ss) (k := k) (n := n) hlt
      rw [hst] at h1
      have hgl : j < gs.length := by rw [hO.out.len, markSt_length]; exact hlt
      obtain ⟨⟨g, c⟩, hg⟩ : ∃ g, gs[j]? = some g := ⟨_, List.getElem?_eq_getElem hgl⟩
      have hout := hO.out.outer
      rw [markSt_length] at hout
      obtain ⟨b, c', he⟩ := some_of_owns9 hout (by omega)
      injection he with he1 he2 he3
      subst he1
      subst he3
      clear he2
      have hat := cellsS_at n gs _ j (g, c) _ hO.out.len hg h1
      have d0 : wr.cell? ⟨b, j * 3, none⟩ = some (.slice (some ⟨g, 0, none⟩) n c) := by rw [hout.cellAt (j * 3) (by omega)]; exact hat.1
      obtain ⟨x, hx⟩ : ∃ x : Int, k + (j : Int) * (2 * (n : Int) + 2) = x := ⟨_, rfl⟩
      have hrow := hO.out.inner j (g, c) _ hg h1
      have hrow : wr.ownsRow base 40 2 (.slice (some ⟨g, 0, none⟩) n c) n (cellsF c0) := hrow
      have hgb := (hrow.lt g rfl).1
      have hbb := (hout.lt b rfl).1
      have hbr : base ≤ wr.heap.size := by have := (hout.lt b rfl).2; omega
      have H1 := Lib.hid h1
      have HGJ := Lib.hid hg
      have HR := Lib.hid hrow
      rw [hx]
      have HX := Lib.hid hx
      have hxr : 0 ≤ x ∧ x ≤ 2000 := by omega
      have hw1 : IntKind.i64.wrap (x + 2 * (n : Int) + 1) = x + 2 * (n : Int) + 1 := IntWalk.i64_in _ (by omega)
      have hw2 : IntKind.i64.wrap (x + 2 * (n : Int) + 1 + 1) = x + 2 * (n : Int) + 1 + 1 := IntWalk.i64_in _ (by omega)
      clear hst hat hout h1 hg hrow hx
      go_wp2_with fail
      refine (markFracS_any base g n c c0 x _ HR.out (by omega) (by omega) (by omega)).mono ?_
      rintro e w5 ⟨rfl, ho5, hg5⟩
      have O5 := Lib.hid (hO.out.setRow HGJ.out H1.out hg5 ho5)
      have B5 := Lib.hid (hB.out.grown hg5 hbr (fun i e => by cases e; exact hgb))
      have hb5 : base ≤ w5.heap.size := by have := hg5.size; omega
      have hs5 : ((markSt ss k n m j).set j (marksF x n, x0, k0))[j]? = some (marksF x n, x0, k0) := by rw [List.getElem?_set_self (by rw [markSt_length]; exact hlt)]
      obtain ⟨kk, hkk⟩ : ∃ kk : Nat, x + 2 * (n : Int) + 1 = (kk : Int) := ⟨(x + 2 * (n : Int) + 1).toNat, by omega⟩
      obtain ⟨O7, G7⟩ := O5.out.setNums hs5 (x + 2 * (n : Int)) kk
      have hout5 := O5.out.outer
      rw [List.length_set, markSt_length] at hout5
      have v1 : ∃ u, w5.cell? ⟨b, j * 3 + 1, none⟩ = some u := by rw [hout5.cellAt (j * 3 + 1) (by omega)]; exact ⟨_, (cellsS_at n gs _ j (g, c) _ O5.out.len HGJ.out hs5).2.1⟩
      obtain ⟨u1, v1⟩ := v1
      have f1 : w5.frozen? ⟨b, j * 3 + 1, none⟩ = false := hout5.frozenAt _
      have v2 : ∃ u, (w5.setCell ⟨b, j * 3 + 1, none⟩ (.int .i64 (x + 2 * (n : Int)))).cell? ⟨b, j * 3 + 2, none⟩ = some u := by
        rw [World.cell?_setCell_other _ _ _ _ (by intro e; injection e with _ e2; omega), hout5.cellAt (j * 3 + 2) (by omega)]; exact ⟨_, (cellsS_at n gs _ j (g, c) _ O5.out.len HGJ.out hs5).2.2⟩
      obtain ⟨u2, v2⟩ := v2
      have f2 : (w5.setCell ⟨b, j * 3 + 1, none⟩ (.int .i64 (x + 2 * (n : Int)))).frozen? ⟨b, j * 3 + 2, none⟩ = false := by rw [World.frozen?_setCell]; exact hout5.frozenAt _
      have O8 : Hid (OwnSt ((w5.setCell ⟨b, j * 3 + 1, none⟩ (.int .i64 (x + 2 * (n : Int)))).setCell ⟨b, j * 3 + 2, none⟩ (.int .i64 (kk : Int))) base (some ⟨b, 0, none⟩) cap n gs (markSt ss k n m (j + 1))) := by
        unfold Hid
        rw [List.set_set] at O7
        have e1 : ((marksF x n, x + 2 * (n : Int), kk) : TfStp) = markStp k n j := by unfold markStp; rw [HX.out, hkk, Int.toNat_natCast]
        rw [← markSt_next, ← e1]
        exact O7
      have B8 := Lib.hid (B5.out.grown G7 hb5 (fun i e => by cases e; exact hbb))
      rw [← hkk] at O8 B8
      clear hO hB HR ho5 hg5 O5 B5 O7 G7 hout5 hkk
      go_wp2
      go_roundw
      case rel => exact ⟨j + 1, by omega, by go_num, by have := HX.out; congr 1; omega, O8, B8⟩
      case measure => simp [intOf]; omega
    · obtain rfl : j = m := by omega
      rw [markSt_all] at hO
      go_wp2
      go_ret
      exact ⟨rfl, hO.out, hB.out⟩

set_option maxRecDepth 100000 in
set_option maxHeartbeats 2000000 in
/-- **heldStepS**. -/
theorem heldStepS_any (a : Option Addr) (n cap m : Nat) (k : Int) (w : World) (h : IsSt w a m cap (marksSt k n m)) (hl : m ≤ 5) (hn : 0 < m → n ≤ 5) (hk0 : 0 ≤ k) (hk : k ≤ 1000) :
    Calls Try.prog 43 #[.slice a m cap, .int .i64 k] w fun e w' => e = .returned (.int .i64 (k + (m : Int) * (2 * (n : Int) + 2))) ∧ w = w' := by
  have H := Lib.hid h
  clear h
  go_enter Try.func43, Try.ntmps43
  go_wp2
  go_loop [1, 5] (fun q i => ∃ j : Nat, j ≤ m ∧ i = .int .i64 j ∧ q = .int .i64 (k + (j : Int) * (2 * (n : Int) + 2))) (fun _ i => m - (intOf i).toNat)
  case atStart => exact ⟨0, Nat.zero_le _, rfl, by simp⟩
  case round =>
    obtain ⟨j, hj, rfl, rfl⟩ := hrel
    by_cases hlt : j < m
    · have hn := hn (by omega)
      have hji : (j : Int) < (m : Int) := by omega
      have hmx := mul_next n j
      have hsm := mul_small hn (show j ≤ 5 by omega)
      obtain ⟨x, hx⟩ : ∃ x : Int, k + (j : Int) * (2 * (n : Int) + 2) = x := ⟨_, rfl⟩
      obtain ⟨b, off, aj, lj, cj, rfl, hlb, d0, d1, d2, hf⟩ := H.out.at (j := j) (s := markStp k n j) (by simp [marksSt, hlt])
      unfold markStp at d1 d2 hf
      rw [hx] at d1 d2 hf
      have d1 : w.cell? ⟨b, off + j * 3 + 1, none⟩ = some (.int .i64 (x + 2 * (n : Int))) := d1
      have hxr : 0 ≤ x ∧ x ≤ 2000 := by omega
      have d2 : w.cell? ⟨b, off + j * 3 + 2, none⟩ = some (.int .i64 (x + 2 * (n : Int) + 1)) := by
        rw [d2]
        show some (Value.int .i64 (((x + 2 * (n : Int) + 1).toNat : Nat) : Int)) = _
        rw [Int.toNat_of_nonneg (by omega)]
      have hf : IsFr w aj lj cj (marksF x n) := hf
      have hlj : n = lj := by have := hf.1; simpa [marksF] using this
      subst hlj
      have HF := Lib.hid hf
      have hw1 : IntKind.i64.wrap (x + 2 * (n : Int) + 1) = x + 2 * (n : Int) + 1 := IntWalk.i64_in _ (by omega)
      have hw2 : IntKind.i64.wrap (x + 2 * (n : Int) + 1 + 1) = x + 2 * (n : Int) + 1 + 1 := IntWalk.i64_in _ (by omega)
      have hng : decide (x + 2 * (n : Int) < 0) = false := decide_eq_false (by omega)
      have hne : (x + 2 * (n : Int) != x + 2 * (n : Int)) = false := by simp
      have hne1 : (x + 2 * (n : Int) + 1 != x + 2 * (n : Int) + 1) = false := by simp
      rw [hx]
      have HX := Lib.hid hx
      clear hf hx
      go_wp2_with fail
      refine (heldFracS_any aj n cj x _ HF.out (by omega) (by omega)).mono ?_
      rintro e w5 ⟨rfl, rfl⟩
      go_wp2
      go_round
      case rel => exact ⟨j + 1, by omega, by go_num, by have := HX.out; congr 1; omega⟩
      case measure => simp [intOf]; omega
    · obtain rfl : j = m := by omega
      go_wp2
      go_ret
      exact ⟨rfl, rfl⟩

end Go.Proofs.Ytafnmongglhlaaa
