/-
  A linked list of candidates in memory (Chain): its blocks, their numbers; what a store and a new node do to it. No condition but what each theorem says.
-/
import Derived.Test.YtapmmbngfklahaaBase
import Derived.OwnWalk
namespace Go.Proofs.Ytapmmbngfklahaa
open Go.RowKit

/-- What leads to the block at place i of a list of blocks: nil behind its end. -/
def nextV (bs : List Nat) (i : Nat) : Value := .pointer ((bs[i]?).map fun b => ⟨b, 0, none⟩)
theorem nextV_some {bs : List Nat} {i : Nat} (h : i < bs.length) : nextV bs i = .pointer (some ⟨bs[i]?.getD 0, 0, none⟩) := by simp [nextV, h]
theorem nextV_none {bs : List Nat} {i : Nat} (h : bs.length ≤ i) : nextV bs i = .pointer none := by simp [nextV, h]

/-- Node b: its number and what it leads to. -/
structure Node (w : World) (b : Nat) (z : Int) (v : Value) : Prop where
  lt : b < w.heap.size
  num : w.cell? ⟨b, 0, none⟩ = some (.int .i64 z)
  next : w.cell? ⟨b, 1, none⟩ = some v
  free : w.frozen? ⟨b, 1, none⟩ = false

theorem Node.block {w w' : World} {b : Nat} {z : Int} {v : Value} (h : Node w b z v) (hs : w.heap.size ≤ w'.heap.size) (hb : w'.heap[b]? = w.heap[b]?) : Node w' b z v :=
  ⟨Nat.lt_of_lt_of_le h.lt hs, (World.cell?_of_block (a := ⟨b, 0, none⟩) hb).trans h.num, (World.cell?_of_block (a := ⟨b, 1, none⟩) hb).trans h.next, (World.frozen?_of_block (a := ⟨b, 1, none⟩) hb).trans h.free⟩

/-- The blocks bs, from B on and below C, are nodes with the numbers ns; each leads to the next one. -/
structure Chain (w : World) (B C : Nat) (bs : List Nat) (ns : List Int) : Prop where
  len : bs.length = ns.length
  low : ∀ i, i < bs.length → B ≤ bs[i]?.getD 0 ∧ bs[i]?.getD 0 < C
  node : ∀ i, i < bs.length → Node w (bs[i]?.getD 0) (ns[i]?.getD 0) (nextV bs (i + 1))
  dis : bs.Nodup

theorem Chain.kept {w w' : World} {B C : Nat} {bs : List Nat} {ns : List Int} (h : Chain w B C bs ns) (hs : w.heap.size ≤ w'.heap.size) (hb : ∀ k, k < C → k < w.heap.size → w'.heap[k]? = w.heap[k]?) : Chain w' B C bs ns :=
  ⟨h.len, h.low, fun i hi => (h.node i hi).block hs (hb _ (h.low i hi).2 (h.node i hi).lt), h.dis⟩
theorem Chain.below {w w' : World} {B C : Nat} {bs : List Nat} {ns : List Int} (h : Chain w B C bs ns) (hb : Below C w w') : Chain w' B C bs ns := h.kept hb.size (fun k hk _ => hb.block k hk)
theorem Chain.raise {w : World} {B C C' : Nat} {bs : List Nat} {ns : List Int} (h : Chain w B C bs ns) (hc : C ≤ C') : Chain w B C' bs ns := ⟨h.len, fun i hi => ⟨(h.low i hi).1, Nat.lt_of_lt_of_le (h.low i hi).2 hc⟩, h.node, h.dis⟩

theorem get_erase {α : Type} (l : List α) (k i : Nat) : (l.eraseIdx k)[i]? = if i < k then l[i]? else l[i + 1]? := List.getElem?_eraseIdx

theorem at_inj {bs : List Nat} (hd : bs.Nodup) {i j : Nat} (hi : i < bs.length) (hj : j < bs.length) (h : bs[i]?.getD 0 = bs[j]?.getD 0) : i = j := by
  have hi' : bs[i]?.getD 0 = bs[i] := by simp [hi]
  have hj' : bs[j]?.getD 0 = bs[j] := by simp [hj]
  rw [hi', hj'] at h
  exact (List.getElem_inj hd).1 h

/-- **A node is taken out**: the one at place k leads to what stood behind the one at place k + 1. -/
theorem Chain.taken {w : World} {B C : Nat} {bs : List Nat} {ns : List Int} (h : Chain w B C bs ns) {k : Nat} (hk : k + 1 < bs.length) :
    Chain (w.setCell ⟨bs[k]?.getD 0, 1, none⟩ (nextV bs (k + 1 + 1))) B C (bs.eraseIdx (k + 1)) (ns.eraseIdx (k + 1)) := by
  have hl : (bs.eraseIdx (k + 1)).length = bs.length - 1 := by rw [List.length_eraseIdx, if_pos hk]
  have hl' : (ns.eraseIdx (k + 1)).length = ns.length - 1 := by rw [List.length_eraseIdx, if_pos (by rw [← h.len]; exact hk)]
  have hlow : ∀ i, i < bs.length → (w.setCell ⟨bs[k]?.getD 0, 1, none⟩ (nextV bs (k + 1 + 1))).heap.size = w.heap.size := fun _ _ => by simp [World.setCell]
  have hother : ∀ i, i < bs.length → i ≠ k → Node (w.setCell ⟨bs[k]?.getD 0, 1, none⟩ (nextV bs (k + 1 + 1))) (bs[i]?.getD 0) (ns[i]?.getD 0) (nextV bs (i + 1)) := fun i hi hik =>
    (h.node i hi).block (by rw [hlow i hi]; exact Nat.le_refl _) (Below.heap_setCell _ _ _ _ (fun e => hik (at_inj h.dis hi (by omega) e)))
  have hself : Node (w.setCell ⟨bs[k]?.getD 0, 1, none⟩ (nextV bs (k + 1 + 1))) (bs[k]?.getD 0) (ns[k]?.getD 0) (nextV bs (k + 1 + 1)) := by
    have hn := h.node k (by omega)
    refine ⟨by rw [hlow k (by omega)]; exact hn.lt, ?_, ?_, by rw [World.frozen?_setCell]; exact hn.free⟩
    · rw [World.cell?_setCell_other _ _ _ _ (by intro e; injection e with _ e2; exact absurd e2 (by decide))]; exact hn.num
    · exact World.cell?_setCell_same' _ _ _ (by rw [hn.next]; rfl)
  have hnx : ∀ i, i ≠ k → nextV (bs.eraseIdx (k + 1)) (i + 1) = if i < k then nextV bs (i + 1) else nextV bs (i + 1 + 1) := fun i hik => by
    unfold nextV; rw [get_erase]
    by_cases e : i < k
    · rw [if_pos (by omega), if_pos e]
    · rw [if_neg (by omega), if_neg e]
  refine ⟨by rw [hl, hl', h.len], fun i hi => ?_, fun i hi => ?_, h.dis.sublist (List.eraseIdx_sublist _ _)⟩
  · rw [hl] at hi
    rw [get_erase]
    by_cases e : i < k + 1
    · rw [if_pos e]; exact h.low i (by omega)
    · rw [if_neg e]; exact h.low (i + 1) (by omega)
  · rw [hl] at hi
    rw [get_erase, get_erase]
    by_cases e : i < k + 1
    · rw [if_pos e, if_pos e]
      by_cases e2 : i = k
      · subst e2
        have : nextV (bs.eraseIdx (i + 1)) (i + 1) = nextV bs (i + 1 + 1) := by unfold nextV; rw [get_erase, if_neg (by omega)]
        rw [this]; exact hself
      · rw [hnx i e2, if_pos (by omega)]; exact hother i (by omega) e2
    · rw [if_neg e, if_neg e, hnx i (by omega), if_neg (by omega)]
      exact hother (i + 1) (by omega) (by omega)

/-- **A node is added at the end**: a new block, to which the last one leads. -/
theorem Chain.added {w : World} {B C : Nat} {bs : List Nat} {ns : List Int} {t : TypeId} {z : Int} {l : Nat} (h : Chain w B C bs ns) (hl : bs.length = l + 1) (hB : B ≤ w.heap.size) (hC : w.heap.size + 1 ≤ C) :
    Chain ((w.alloc (.cells #[.int .i64 z, .pointer none] t)).setCell ⟨bs[l]?.getD 0, 1, none⟩ (.pointer (some ⟨w.heap.size, 0, none⟩))) B C (bs ++ [w.heap.size]) (ns ++ [z]) := by
  have hnl := h.len
  have hlast := h.node l (by omega)
  have hne : bs[l]?.getD 0 ≠ w.heap.size := by have := hlast.lt; omega
  have hsz : ((w.alloc (.cells #[.int .i64 z, .pointer none] t)).setCell ⟨bs[l]?.getD 0, 1, none⟩ (.pointer (some ⟨w.heap.size, 0, none⟩))).heap.size = w.heap.size + 1 := by simp [World.setCell]
  have hA : ∀ i, i < bs.length → Node (w.alloc (.cells #[.int .i64 z, .pointer none] t)) (bs[i]?.getD 0) (ns[i]?.getD 0) (nextV bs (i + 1)) := fun i hi =>
    (h.node i hi).block (by simp) (Below.heap_alloc _ _ _ (h.node i hi).lt)
  have hget : ∀ i, i < bs.length → (bs ++ [w.heap.size])[i]?.getD 0 = bs[i]?.getD 0 := fun i hi => by rw [List.getElem?_append_left hi]
  have hgetn : ∀ i, i < bs.length → (ns ++ [z])[i]?.getD 0 = ns[i]?.getD 0 := fun i hi => by rw [List.getElem?_append_left (by omega)]
  refine ⟨by simp; omega, fun i hi => ?_, fun i hi => ?_, ?_⟩
  · have hi : i < bs.length + 1 := by simpa using hi
    by_cases e : i < bs.length
    · rw [hget i e]; exact h.low i e
    · obtain rfl : i = bs.length := by omega
      simp; omega
  · have hi : i < bs.length + 1 := by simpa using hi
    by_cases e : i < l
    · rw [hget i (by omega), hgetn i (by omega)]
      have hx : nextV (bs ++ [w.heap.size]) (i + 1) = nextV bs (i + 1) := by unfold nextV; rw [List.getElem?_append_left (by omega)]
      rw [hx]
      exact (hA i (by omega)).block (by rw [hsz]; simp) (Below.heap_setCell _ _ _ _ (fun e2 => by have := at_inj h.dis (show i < bs.length by omega) (show l < bs.length by omega) e2; omega))
    · by_cases e2 : i = l
      · subst e2
        rw [hget i (by omega), hgetn i (by omega)]
        have hx : nextV (bs ++ [w.heap.size]) (i + 1) = .pointer (some ⟨w.heap.size, 0, none⟩) := by unfold nextV; rw [← hl]; simp
        rw [hx]
        have hn := hA i (by omega)
        refine ⟨by rw [hsz]; have := hlast.lt; omega, ?_, ?_, by rw [World.frozen?_setCell]; exact hn.free⟩
        · rw [World.cell?_setCell_other _ _ _ _ (by intro e; injection e with _ e2; exact absurd e2 (by decide))]; exact hn.num
        · exact World.cell?_setCell_same' _ _ _ (by rw [hn.next]; rfl)
      · obtain rfl : i = l + 1 := by omega
        have e3 : (bs ++ [w.heap.size])[l + 1]?.getD 0 = w.heap.size := by rw [← hl]; simp
        have e4 : (ns ++ [z])[l + 1]?.getD 0 = z := by rw [← hl, hnl]; simp
        have e5 : nextV (bs ++ [w.heap.size]) (l + 1 + 1) = .pointer none := nextV_none (by simp; omega)
        rw [e3, e4, e5]
        have hnew : Node (w.alloc (.cells #[.int .i64 z, .pointer none] t)) w.heap.size z (.pointer none) :=
          ⟨by simp, (World.cell?_alloc_mark w _ _ (0, 0) 0).trans rfl, (World.cell?_alloc_mark w _ _ (0, 0) 1).trans rfl, (World.frozen?_alloc_mark w _ _ 0 0 1).trans rfl⟩
        exact hnew.block (by rw [hsz]; simp) (Below.heap_setCell _ _ _ _ (fun e => hne e.symm))
  · rw [List.nodup_append]
    refine ⟨h.dis, by simp, ?_⟩
    intro a ha b hb e
    have hb' : b = w.heap.size := by simpa using hb
    subst hb'; subst e
    obtain ⟨i, hi, hia⟩ := List.getElem_of_mem ha
    have := (h.node i hi).lt
    have e6 : bs[i]?.getD 0 = bs[i] := by simp [hi]
    omega

/-- A new list: its head alone. -/
theorem Chain.start (w : World) (t : TypeId) (C : Nat) (hC : w.heap.size + 1 ≤ C) : Chain (w.alloc (.cells #[.int .i64 0, .pointer none] t)) w.heap.size C [w.heap.size] [0] := by
  refine ⟨rfl, fun i hi => ?_, fun i hi => ?_, by simp⟩
  · have hi : i < 1 := by simpa using hi
    obtain rfl : i = 0 := by omega
    simp; omega
  · have hi : i < 1 := by simpa using hi
    obtain rfl : i = 0 := by omega
    exact ⟨by simp, (World.cell?_alloc_mark w _ _ (0, 0) 0).trans rfl, (World.cell?_alloc_mark w _ _ (0, 0) 1).trans rfl, (World.frozen?_alloc_mark w _ _ 0 0 1).trans rfl⟩

end Go.Proofs.Ytapmmbngfklahaa
