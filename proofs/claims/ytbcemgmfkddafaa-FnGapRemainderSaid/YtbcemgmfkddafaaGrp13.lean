/-
  A linked list of candidates in memory (Chain): its blocks, their numbers; what a store and a new node do to it. No condition but what each theorem says.
  impl.leftCandidates and impl.take: a linked list of the candidates that are left is made, and one candidate is taken out of it. No condition but what each theorem says.
  impl.LotsOf: what it returns for every number of candidates and every seed, in memory of its own; it writes into no memory that was there.
-/
import Derived.Test.YtbcemgmfkddafaaGrp1
import Derived.OwnWalk
import Derived.Test.YtbcemgmfkddafaaGrp3
import Derived.Test.YtbcemgmfkddafaaGrp5
import Derived.Test.YtbcemgmfkddafaaGrp6
namespace Go.Proofs.Ytbcemgmfkddafaa
open Go.RowKit

/-- What leads to the block at place i of a list of blocks: nil behind its end. -/
def nextV (bs : List Nat) (i : Nat) : Value := .pointer ((bs[i]?).map fun b => ⟨b, 0, none⟩)
theorem nextV_some {bs : List Nat} {i : Nat} (h : i < bs.length) : nextV bs i = .pointer (some ⟨bs[i]?.getD 0, 0, none⟩) := by simp [nextV, h]
theorem nextV_none {bs : List Nat} {i : Nat} (h : bs.length ≤ i) : nextV bs i = .pointer none := by simp [nextV, h]

/-- Node b: its number and what it leads to. -/
structure Node (w : World) (b : Nat) (z : Int) (v : Value) : Prop where
  lt : b < w.heap.size
  num : w.cell? ⟨b, 0, none⟩ = some (.int .i64 z)
  next : w.cell? ⟨b, 1, none⟩ = some v
  free : w.frozen? ⟨b, 1, none⟩ = false

theorem Node.block {w w' : World} {b : Nat} {z : Int} {v : Value} (h : Node w b z v) (hs : w.heap.size ≤ w'.heap.size) (hb : w'.heap[b]? = w.heap[b]?) : Node w' b z v :=
  ⟨Nat.lt_of_lt_of_le h.lt hs, (World.cell?_of_block (a := ⟨b, 0, none⟩) hb).trans h.num, (World.cell?_of_block (a := ⟨b, 1, none⟩) hb).trans h.next, (World.frozen?_of_block (a := ⟨b, 1, none⟩) hb).trans h.free⟩

/-- The blocks bs, from B on and below C, are nodes with the numbers ns; each leads to the next one. -/
structure Chain (w : World) (B C : Nat) (bs : List Nat) (ns : List Int) : Prop where
  len : bs.length = ns.length
  low : ∀ i, i < bs.length → B ≤ bs[i]?.getD 0 ∧ bs[i]?.getD 0 < C
  node : ∀ i, i < bs.length → Node w (bs[i]?.getD 0) (ns[i]?.getD 0) (nextV bs (i + 1))
  dis : bs.Nodup

theorem Chain.kept {w w' : World} {B C : Nat} {bs : List Nat} {ns : List Int} (h : Chain w B C bs ns) (hs : w.heap.size ≤ w'.heap.size) (hb : ∀ k, k < C → k < w.heap.size → w'.heap[k]? = w.heap[k]?) : Chain w' B C bs ns :=
  ⟨h.len, h.low, fun i hi => (h.node i hi).block hs (hb _ (h.low i hi).2 (h.node i hi).lt), h.dis⟩
theorem Chain.below {w w' : World} {B C : Nat} {bs : List Nat} {ns : List Int} (h : Chain w B C bs ns) (hb : Below C w w') : Chain w' B C bs ns := h.kept hb.size (fun k hk _ => hb.block k hk)
theorem Chain.raise {w : World} {B C C' : Nat} {bs : List Nat} {ns : List Int} (h : Chain w B C bs ns) (hc : C ≤ C') : Chain w B C' bs ns := ⟨h.len, fun i hi => ⟨(h.low i hi).1, Nat.lt_of_lt_of_le (h.low i hi).2 hc⟩, h.node, h.dis⟩

theorem get_erase {α : Type} (l : List α) (k i : Nat) : (l.eraseIdx k)[i]? = if i < k then l[i]? else l[i + 1]? := List.getElem?_eraseIdx

theorem at_inj {bs : List Nat} (hd : bs.Nodup) {i j : Nat} (hi : i < bs.length) (hj : j < bs.length) (h : bs[i]?.getD 0 = bs[j]?.getD 0) : i = j := by
  have hi' : bs[i]?.getD 0 = bs[i] := by simp [hi]
  have hj' : bs[j]?.getD 0 = bs[j] := by simp [hj]
  rw [hi', hj'] at h
  exact (List.getElem_inj hd).1 h

/-- **A node is taken out**: the one at place k leads to what stood behind the one at place k + 1. -/
theorem Chain.taken {w : World} {B C : Nat} {bs : List Nat} {ns : List Int} (h : Chain w B C bs ns) {k : Nat} (hk : k + 1 < bs.length) :
    Chain (w.setCell ⟨bs[k]?.getD 0, 1, none⟩ (nextV bs (k + 1 + 1))) B C (bs.eraseIdx (k + 1)) (ns.eraseIdx (k + 1)) := by
  have hl : (bs.eraseIdx (k + 1)).length = bs.length - 1 := by rw [List.length_eraseIdx, if_pos hk]
  have hl' : (ns.eraseIdx (k + 1)).length = ns.length - 1 := by rw [List.length_eraseIdx, if_pos (by rw [← h.len]; exact hk)]
  have hlow : ∀ i, i < bs.length → (w.setCell ⟨bs[k]?.getD 0, 1, none⟩ (nextV bs (k + 1 + 1))).heap.size = w.heap.size := fun _ _ => by simp [World.setCell]
  have hother : ∀ i, i < bs.length → i ≠ k → Node (w.setCell ⟨bs[k]?.getD 0, 1, none⟩ (nextV bs (k + 1 + 1))) (bs[i]?.getD 0) (ns[i]?.getD 0) (nextV bs (i + 1)) := fun i hi hik =>
    (h.node i hi).block (by rw [hlow i hi]; exact Nat.le_refl _) (Below.heap_setCell _ _ _ _ (fun e => hik (at_inj h.dis hi (by omega) e)))
  have hself : Node (w.setCell ⟨bs[k]?.getD 0, 1, none⟩ (nextV bs (k + 1 + 1))) (bs[k]?.getD 0) (ns[k]?.getD 0) (nextV bs (k + 1 + 1)) := by
    have hn := h.node k (by omega)
    refine ⟨by rw [hlow k (by omega)]; exact hn.lt, ?_, ?_, by rw [World.frozen?_setCell]; exact hn.free⟩
    · rw [World.cell?_setCell_other _ _ _ _ (by intro e; injection e with _ e2; exact absurd e2 (by decide))]; exact hn.num
    · exact World.cell?_setCell_same' _ _ _ (by rw [hn.next]; rfl)
  have hnx : ∀ i, i ≠ k → nextV (bs.eraseIdx (k + 1)) (i + 1) = if i < k then nextV bs (i + 1) else nextV bs (i + 1 + 1) := fun i hik => by
    unfold nextV; rw [get_erase]
    by_cases e : i < k
    · rw [if_pos (by omega), if_pos e]
    · rw [if_neg (by omega), if_neg e]
  refine ⟨by rw [hl, hl', h.len], fun i hi => ?_, fun i hi => ?_, h.dis.sublist (List.eraseIdx_sublist _ _)⟩
  · rw [hl] at hi
    rw [get_erase]
    by_cases e : i < k + 1
    · rw [if_pos e]; exact h.low i (by omega)
    · rw [if_neg e]; exact h.low (i + 1) (by omega)
  · rw [hl] at hi
    rw [get_erase, get_erase]
    by_cases e : i < k + 1
    · rw [if_pos e, if_pos e]
      by_cases e2 : i = k
      · subst e2
        have : nextV (bs.eraseIdx (i + 1)) (i + 1) = nextV bs (i + 1 + 1) := by unfold nextV; rw [get_erase, if_neg (by omega)]
        rw [this]; exact hself
      · rw [hnx i e2, if_pos (by omega)]; exact hother i (by omega) e2
    · rw [if_neg e, if_neg e, hnx i (by omega), if_neg (by omega)]
      exact hother (i + 1) (by omega) (by omega)

/-- **A node is added at the end**: a new block, to which the last one leads. -/
theorem Chain.added {w : World} {B C : Nat} {bs : List Nat} {ns : List Int} {t : TypeId} {z : Int} {l : Nat} (h : Chain w B C bs ns) (hl : bs.length = l + 1) (hB : B ≤ w.heap.size) (hC : w.heap.size + 1 ≤ C) :
    Chain ((w.alloc (.cells #[.int .i64 z, .pointer none] t)).setCell ⟨bs[l]?.getD 0, 1, none⟩ (.pointer (some ⟨w.heap.size, 0, none⟩))) B C (bs ++ [w.heap.size]) (ns ++ [z]) := by
  have hnl := h.len
  have hlast := h.node l (by omega)
  have hne : bs[l]?.getD 0 ≠ w.heap.size := by have := hlast.lt; omega
  have hsz : ((w.alloc (.cells #[.int .i64 z, .pointer none] t)).setCell ⟨bs[l]?.getD 0, 1, none⟩ (.pointer (some ⟨w.heap.size, 0, none⟩))).heap.size = w.heap.size + 1 := by simp [World.setCell]
  have hA : ∀ i, i < bs.length → Node (w.alloc (.cells #[.int .i64 z, .pointer none] t)) (bs[i]?.getD 0) (ns[i]?.getD 0) (nextV bs (i + 1)) := fun i hi =>
    (h.node i hi).block (by simp) (Below.heap_alloc _ _ _ (h.node i hi).lt)
  have hget : ∀ i, i < bs.length → (bs ++ [w.heap.size])[i]?.getD 0 = bs[i]?.getD 0 := fun i hi => by rw [List.getElem?_append_left hi]
  have hgetn : ∀ i, i < bs.length → (ns ++ [z])[i]?.getD 0 = ns[i]?.getD 0 := fun i hi => by rw [List.getElem?_append_left (by omega)]
  refine ⟨by simp; omega, fun i hi => ?_, fun i hi => ?_, ?_⟩
  · have hi : i < bs.length + 1 := by simpa using hi
    by_cases e : i < bs.length
    · rw [hget i e]; exact h.low i e
    · obtain rfl : i = bs.length := by omega
      simp; omega
  · have hi : i < bs.length + 1 := by simpa using hi
    by_cases e : i < l
    · rw [hget i (by omega), hgetn i (by omega)]
      have hx : nextV (bs ++ [w.heap.size]) (i + 1) = nextV bs (i + 1) := by unfold nextV; rw [List.getElem?_append_left (by omega)]
      rw [hx]
      exact (hA i (by omega)).block (by rw [hsz]; simp) (Below.heap_setCell _ _ _ _ (fun e2 => by have := at_inj h.dis (show i < bs.length by omega) (show l < bs.length by omega) e2; omega))
    · by_cases e2 : i = l
      · subst e2
        rw [hget i (by omega), hgetn i (by omega)]
        have hx : nextV (bs ++ [w.heap.size]) (i + 1) = .pointer (some ⟨w.heap.size, 0, none⟩) := by unfold nextV; rw [← hl]; simp
        rw [hx]
        have hn := hA i (by omega)
        refine ⟨by rw [hsz]; have := hlast.lt; omega, ?_, ?_, by rw [World.frozen?_setCell]; exact hn.free⟩
        · rw [World.cell?_setCell_other _ _ _ _ (by intro e; injection e with _ e2; exact absurd e2 (by decide))]; exact hn.num
        · exact World.cell?_setCell_same' _ _ _ (by rw [hn.next]; rfl)
      · obtain rfl : i = l + 1 := by omega
        have e3 : (bs ++ [w.heap.size])[l + 1]?.getD 0 = w.heap.size := by rw [← hl]; simp
        have e4 : (ns ++ [z])[l + 1]?.getD 0 = z := by rw [← hl, hnl]; simp
        have e5 : nextV (bs ++ [w.heap.size]) (l + 1 + 1) = .pointer none := nextV_none (by simp; omega)
        rw [e3, e4, e5]
        have hnew : Node (w.alloc (.cells #[.int .i64 z, .pointer none] t)) w.heap.size z (.pointer none) :=
          ⟨by simp, (World.cell?_alloc_mark w _ _ (0, 0) 0).trans rfl, (World.cell?_alloc_mark w _ _ (0, 0) 1).trans rfl, (World.frozen?_alloc_mark w _ _ 0 0 1).trans rfl⟩
        exact hnew.block (by rw [hsz]; simp) (Below.heap_setCell _ _ _ _ (fun e => hne e.symm))
  · rw [List.nodup_append]
    refine ⟨h.dis, by simp, ?_⟩
    intro a ha b hb e
    have hb' : b = w.heap.size := by simpa using hb
    subst hb'; subst e
    obtain ⟨i, hi, hia⟩ := List.getElem_of_mem ha
    have := (h.node i hi).lt
    have e6 : bs[i]?.getD 0 = bs[i] := by simp [hi]
    omega

/-- A new list: its head alone. -/
theorem Chain.start (w : World) (t : TypeId) (C : Nat) (hC : w.heap.size + 1 ≤ C) : Chain (w.alloc (.cells #[.int .i64 0, .pointer none] t)) w.heap.size C [w.heap.size] [0] := by
  refine ⟨rfl, fun i hi => ?_, fun i hi => ?_, by simp⟩
  · have hi : i < 1 := by simpa using hi
    obtain rfl : i = 0 := by omega
    simp; omega
  · have hi : i < 1 := by simpa using hi
    obtain rfl : i = 0 := by omega
    exact ⟨by simp, (World.cell?_alloc_mark w _ _ (0, 0) 0).trans rfl, (World.cell?_alloc_mark w _ _ (0, 0) 1).trans rfl, (World.frozen?_alloc_mark w _ _ 0 0 1).trans rfl⟩

end Go.Proofs.Ytbcemgmfkddafaa

namespace Go.Proofs.Ytbcemgmfkddafaa
open Go.RowKit

set_option maxHeartbeats 1000000 in
/-- **leftCandidates**: a head, and behind it the candidates from 0 on. -/
theorem left_any (n : Nat) (w : World) (hn : n ≤ 5) :
    Calls Try.prog 45 #[.int .i64 (n : Int)] w fun e w' => ∃ bs, e = .returned (.pointer (some ⟨w.heap.size, 0, none⟩)) ∧ bs[0]?.getD 0 = w.heap.size ∧ Chain w' w.heap.size w'.heap.size bs (0 :: fromZero n) ∧ Below w.heap.size w w' := by
  have HC0 : Hid (Chain (w.alloc (.cells #[.int .i64 0, .pointer none] 79)) w.heap.size (w.heap.size + 1) [w.heap.size] (0 :: fromZero 0)) := Chain.start w _ _ (Nat.le_refl _)
  go_enter Try.func45, Try.ntmps45
  go_wp2
  go_loopw [4, 10] (fun l i wr => ∃ (k : Nat) (bs : List Nat) (b : Nat), k ≤ n ∧ i = .int .i64 k ∧ l = .pointer (some ⟨b, 0, none⟩) ∧ Hid (b = bs[k]?.getD 0) ∧ Hid (bs[0]?.getD 0 = w.heap.size) ∧ Hid (Chain wr w.heap.size wr.heap.size bs (0 :: fromZero k)) ∧ Below w.heap.size w wr ∧ w.heap.size + 1 ≤ wr.heap.size) (fun _ i _ => n - (intOf i).toNat)
  case atStart => exact ⟨0, [w.heap.size], w.heap.size, Nat.zero_le _, rfl, rfl, rfl, rfl, by unfold Hid; simpa using HC0.out, (Below.refl _ w).alloc (Nat.le_refl _) _, by simp⟩
  case round =>
    obtain ⟨k, bs, b, hk, rfl, rfl, hb, h0, hc, hB, hs⟩ := hrel
    by_cases hlt : k < n
    · have hl : bs.length = k + 1 := by have := hc.out.len; simpa [fromZero_length] using this
      have hnode := hc.out.node k (by omega)
      rw [← hb.out] at hnode
      have hbl := hnode.lt
      have hbw : w.heap.size ≤ b := by have := (hc.out.low k (by omega)).1; rw [← hb.out] at this; exact this
      have hadd := Lib.hid ((hc.out.raise (Nat.le_succ _)).added (t := 79) (z := (k : Int)) hl (by omega) (Nat.le_refl _))
      rw [← hb.out] at hadd
      have hA := hnode.block (w' := wr.alloc (.cells #[.int .i64 (k : Int), .pointer none] 79)) (by simp) (Below.heap_alloc _ _ _ hbl)
      have hA1 := hA.next
      have hA2 := hA.free
      have HL := Lib.hid hl
      have hB1 := hB.alloc (by omega) (.cells #[.int .i64 (k : Int), .pointer none] 79)
      have heq : (wr.alloc (.cells #[.int .i64 (k : Int), .pointer none] 79)).setCell ⟨b, 1, none⟩ (.pointer (some ⟨wr.heap.size, 0, none⟩)) = (wr.setCell ⟨b, 1, none⟩ (.pointer (some ⟨wr.heap.size, 0, none⟩))).alloc (.cells #[.int .i64 (k : Int), .pointer none] 79) := World.setCell_alloc_past _ _ _ _ hbl
      have hld : (wr.setCell ⟨b, 1, none⟩ (.pointer (some ⟨wr.heap.size, 0, none⟩))).cell? ⟨b, 1, none⟩ = some (.pointer (some ⟨wr.heap.size, 0, none⟩)) := World.cell?_setCell_same' _ _ _ (by rw [hnode.next]; rfl)
      have HE := Lib.hid heq; clear heq
      clear hnode hA hl
      go_wp2
      go_roundw
      case rel =>
        rw [← HE.out]
        refine ⟨k + 1, bs ++ [wr.heap.size], wr.heap.size, by omega, by go_num, rfl, ?_, ?_, ?_, hB1.setCell (p := ⟨b, 1, none⟩) hbw _, by simp [World.setCell]; omega⟩
        · unfold Hid; rw [← HL.out]; simp
        · unfold Hid; rw [List.getElem?_append_left (by rw [HL.out]; omega)]; exact h0.out
        · unfold Hid
          have := hadd.out
          rw [fromZero_succ]
          simpa [World.setCell] using this
      case measure => simp [intOf]; omega
    · obtain rfl : k = n := by omega
      go_wp2
      go_ret
      exact ⟨bs, rfl, h0.out, hc.out, hB⟩

set_option maxHeartbeats 1000000 in
/-- **take**: the candidate at a place is taken out of the list. -/
theorem take_any (B C h k : Nat) (bs : List Nat) (ns : List Int) (w : World) (hc : Chain w B C bs ns) (h0 : bs[0]?.getD 0 = h) (hk : k + 1 < bs.length) (hl : bs.length ≤ 1000000) :
    Calls Try.prog 46 #[.pointer (some ⟨h, 0, none⟩), .int .i64 (k : Int)] w fun e w' => e = .returned (.int .i64 (ns[k + 1]?.getD 0)) ∧ Chain w' B C (bs.eraseIdx (k + 1)) (ns.eraseIdx (k + 1)) ∧ Below B w w' ∧ ∃ r, r < C ∧ w.grownBy w' (some r) ∧ w'.heap.size = w.heap.size := by
  have HC := Lib.hid hc
  have H0 := Lib.hid h0; clear h0
  go_enter Try.func46, Try.ntmps46
  go_wp2
  go_loop [5, 9] (fun q i => ∃ (j b : Nat), j ≤ k ∧ i = .int .i64 j ∧ q = .pointer (some ⟨b, 0, none⟩) ∧ Hid (b = bs[j]?.getD 0)) (fun _ i => k - (intOf i).toNat)
  case atStart => exact ⟨0, h, Nat.zero_le _, rfl, rfl, H0.out.symm⟩
  case round =>
    obtain ⟨j, b, hj, rfl, rfl, hb⟩ := hrel
    have hnode := HC.out.node j (by omega)
    rw [← hb.out, nextV_some (by omega)] at hnode
    have hn1 := hnode.num
    have hn2 := hnode.next
    have hn3 := hnode.free
    obtain ⟨b2, hb2⟩ : ∃ b2, bs[j + 1]?.getD 0 = b2 := ⟨_, rfl⟩
    rw [hb2] at hn2
    have HB2 := Lib.hid hb2
    by_cases hlt : j < k
    · clear hb2 hnode
      go_wp2
      go_round
      case rel => exact ⟨j + 1, b2, by omega, by go_num, rfl, HB2.out.symm⟩
      case measure => simp [intOf]; omega
    · obtain rfl : j = k := by omega
      have hnode2 := HC.out.node (j + 1) hk
      rw [hb2] at hnode2
      have hm1 := hnode2.num
      have hm2 := hnode2.next
      have hlow := (HC.out.low j (by omega))
      rw [← hb.out] at hlow
      have htk := Lib.hid (HC.out.taken hk)
      rw [← hb.out] at htk
      have hne : b ≠ b2 := by
        rw [hb.out, ← hb2]
        intro e
        have := at_inj HC.out.dis (show j < bs.length by omega) hk e
        omega
      obtain ⟨v, hv⟩ : ∃ v, nextV bs (j + 1 + 1) = .pointer v := ⟨_, rfl⟩
      rw [hv] at hm2 htk
      have hm3 : (w.setCell ⟨b, 1, none⟩ (.pointer v)).cell? ⟨b2, 0, none⟩ = some (.int .i64 (ns[j + 1]?.getD 0)) := by
        rw [World.cell?_setCell_other _ _ _ _ (by intro e; injection e with e1; exact hne e1)]; exact hm1
      have hlo := hlow.1
      have hhi := hlow.2
      obtain ⟨z, hz⟩ : ∃ z, ns[j + 1]?.getD 0 = z := ⟨_, rfl⟩
      rw [hz] at hm3 hm1
      have HZ := Lib.hid hz
      clear hb2 hnode hnode2 hlow hv hz
      go_wp2
      go_ret
      refine ⟨ret_int HZ.out.symm, htk.out, (Below.refl B w).setCell (p := ⟨b, 1, none⟩) hlo _, b, hhi, ⟨rfl, rfl, rfl, by simp [World.setCell], fun i hi hne => Below.heap_setCell _ _ _ _ (fun e => hne (by rw [e]))⟩, by simp [World.setCell]⟩

end Go.Proofs.Ytbcemgmfkddafaa

namespace Go.Proofs.Ytbcemgmfkddafaa
open Go.RowKit

theorem ownsRow_low {w : World} {base base' n size : Nat} {e : TypeId} {v : Value} {xs : List Value} (h : w.ownsRow base e size v n xs) (hb : base' ≤ base) : w.ownsRow base' e size v n xs := by
  refine ⟨h.1, ?_⟩
  rcases h.2 with hn | ⟨g, cap, cur, h1, h2, h3⟩
  · exact .inl hn
  · exact .inr ⟨g, cap, cur, h1, Nat.le_trans hb h2, h3⟩

/-- **take**, its place named. -/
theorem take_as (B C h k : Nat) (q : Int) (bs : List Nat) (ns : List Int) (w : World) (hc : Chain w B C bs ns) (h0 : bs[0]?.getD 0 = h) (hk : k + 1 < bs.length) (hl : bs.length ≤ 1000000) (hq : (k : Int) = q) :
    Calls Try.prog 46 #[.pointer (some ⟨h, 0, none⟩), .int .i64 q] w fun e w' => e = .returned (.int .i64 (ns[k + 1]?.getD 0)) ∧ Chain w' B C (bs.eraseIdx (k + 1)) (ns.eraseIdx (k + 1)) ∧ Below B w w' ∧ ∃ r, r < C ∧ w.grownBy w' (some r) ∧ w'.heap.size = w.heap.size := by
  subst hq; exact take_any B C h k bs ns w hc h0 hk hl
theorem cons_at (z : Int) (l : List Int) (k : Nat) : (z :: l)[k + 1]?.getD 0 = l[k]?.getD 0 := by simp

set_option maxHeartbeats 2000000 in
/-- **impl.LotsOf**, at a number of candidates and a seed in range. -/
theorem implLotsOf_yes (n s : Nat) (w : World) (hn1 : 1 ≤ n) (hn5 : n ≤ 5) (hs : s ≤ 999) :
    Calls Try.prog 22 #[.int .i64 (n : Int), .int .i64 (s : Int)] w fun e w' => ∃ a cap, e = .returned (.tuple #[.slice a n cap, .bool true]) ∧ w'.ownsRow w.heap.size 3 1 (.slice a n cap) n ((lotsOf n s).map (Value.int .i64)) ∧ Below w.heap.size w w' := by
  obtain ⟨i0, hi, hz0, hz1, hz2⟩ := info_parts int_info
  have hd1 : decide ((n : Int) < 1) = false := by simp; omega
  have hd5 : decide (5 < (n : Int)) = false := by simp; omega
  have hsv := inB_yes (x := (s : Int)) (lo := 0) (hi := 999) (by omega) (by omega)
  have HSV := Lib.hid hsv; clear hsv
  go_enter Try.func22, Try.ntmps22
  go_wp2_with fail
  refine (seed_any _ _).mono ?_
  rintro e w' ⟨he, rfl⟩
  rw [HSV.out] at he
  subst he
  go_wp2_with fail
  refine (left_any n _ hn5).mono ?_
  rintro e w1 ⟨bs, rfl, h0, hc, hb⟩
  have HC1 := Lib.hid hc
  have H01 := Lib.hid h0
  have hs1 := hb.size
  have hB1 := hb
  clear hc h0 hb
  go_wp2_with (at_make; refine wpList_make_own _ rfl _ _ 23 rfl w1.heap.size 3 i0 (.int .i64 0) 1 Try.underlying23 hi hz0 hz1 .i64 .i64 _ n rfl rfl rfl (by rw [hz2]; omega) (by unfold maxLen; omega) (Nat.le_refl _) ?_; intro w2 hown hgrow)
  obtain ⟨g, hg⟩ : ∃ g, w1.heap.size = g := ⟨_, rfl⟩
  have HC2 : Hid (Chain w2 w.heap.size g bs (0 :: fromZero n)) := by
    have := HC1.out; rw [hg] at this
    exact this.kept hgrow.size (fun k hk hk2 => hgrow.block k hk2 (by simp))
  rw [hg] at hown hs1 ⊢
  have hB2 : Below w.heap.size w w2 := hB1.grown hgrow (by omega) (fun k e => by cases e)
  have hgs : g ≤ w2.heap.size := by have := hgrow.size; omega
  have HO2 : Hid (w2.ownsRow g 3 1 (.slice (some ⟨g, 0, none⟩) 0 n) 0 (([] : List Int).map (Value.int .i64))) := hown
  have hbl : bs.length = n + 1 := by have := HC1.out.len; simpa [fromZero_length] using this
  have HBL := Lib.hid hbl
  have hwg : w.heap.size ≤ g := hs1
  clear hown hgrow HC1 hB1 hg hbl hs1 hd1 hd5
  go_wp2
  go_loopw [1, 7, 8] (fun sv lv mv wr => ∃ (k sd m : Nat) (bs : List Nat) (rest out : List Int) (a : Option Addr) (cap : Nat), m + k = n ∧ sd ≤ 999 ∧ mv = .int .i64 (k : Int) ∧ sv = .int .i64 (sd : Int) ∧ lv = .slice a m cap ∧
    Hid (bs[0]?.getD 0 = w.heap.size) ∧ Hid (Chain wr w.heap.size g bs (0 :: rest)) ∧ Hid (rest.length = k) ∧ Hid (bs.length = k + 1) ∧ Hid (out ++ lotR rest sd = lotsOf n s) ∧ Hid (wr.ownsRow g 3 1 (.slice a m cap) m (out.map (Value.int .i64))) ∧ Below w.heap.size w wr ∧ g ≤ wr.heap.size) (fun _ _ mv _ => (intOf mv).toNat)
  case atStart => exact ⟨n, s, 0, bs, fromZero n, [], _, n, by omega, hs, rfl, rfl, rfl, H01.out, HC2.out, fromZero_length n, HBL.out, by unfold Hid; rw [lotR_all]; rfl, HO2.out, hB2, hgs⟩
  case round =>
    obtain ⟨k, sd, m, bs, rest, out, a, cap, hmk, hsd, rfl, rfl, rfl, h0, hc, hrl, hbl, hall, ho, hB, hg⟩ := hrel
    by_cases hlt : 0 < k
    · have hgt : decide (0 < (k : Int)) = true := decide_eq_true (by omega)
      have hkz : ((k : Int) == 0) = false := by simp; omega
      have hq : ((sd % k : Nat) : Int) = (sd : Int) % (k : Int) := Int.natCast_emod sd k
      have HQ := Lib.hid hq; clear hq
      have hqk := Nat.mod_lt sd hlt
      obtain ⟨q, hqe⟩ : ∃ q, sd % k = q := ⟨_, rfl⟩
      rw [hqe] at hqk
      have HST := Lib.hid (lotR_step hrl.out (by omega) sd)
      rw [hqe] at HQ HST
      clear hqe
      go_wp2_with fail
      refine (take_as w.heap.size g w.heap.size q _ bs (0 :: rest) _ hc.out h0.out (by have := hbl.out; omega) (by have := hbl.out; omega) HQ.out).mono ?_
      rintro e w3 ⟨rfl, hc3, hb3, r, hrg, hg3, hs3⟩
      rw [cons_at]
      obtain ⟨z, hz⟩ : ∃ z, rest[q]?.getD 0 = z := ⟨_, rfl⟩
      rw [hz]
      have HZ := Lib.hid hz
      have HC3 : Hid (Chain w3 w.heap.size g (bs.eraseIdx (q + 1)) (0 :: rest.eraseIdx q)) := hc3
      have HO3 : Hid (w3.ownsRow g 3 1 (.slice a m cap) m (out.map (Value.int .i64))) := ho.out.kept hg3 (by
        cases hb : (Value.slice a m cap).ownBlock with
        | none => exact .inl rfl
        | some j => have := (ho.out.lt j hb).1; right; intro e2; injection e2 with e3; omega)
      have hB3 := hB.trans (hb3.mono (Nat.le_refl _))
      have H03 : Hid ((bs.eraseIdx (q + 1))[0]?.getD 0 = w.heap.size) := by unfold Hid; rw [get_erase, if_pos (by omega)]; exact h0.out
      have hg3s : g ≤ w3.heap.size := by omega
      clear hc3 hg3 hb3 hs3 hz hc ho h0
      go_wp2_with (at_builtin; refine wpList_append_own _ rfl _ _ 23 rfl g 3 i0 (.int .i64 0) 1 8 Try.underlying23 hi hz0 hz1 hz2 rfl (by decide) _ _ _ rfl (HO3.out.alloc _) ⟨w3.heap.size, 0, none⟩ 1 1 [.int .i64 z] rfl rfl (cell_one_new _ _ _) (by simp [Value.oneCell']) (by unfold maxLen; omega) (by omega) (by simp; omega) ?_; intro v' w4 hown' hgrow _; obtain ⟨a4, cap4, rfl⟩ := owns_slice hown')
      have hrow : ∀ j, (Value.slice a m cap).ownBlock = some j → g ≤ j := fun j ej => (HO3.out.lt j ej).1
      have HC4 : Hid (Chain w4 w.heap.size g (bs.eraseIdx (q + 1)) (0 :: rest.eraseIdx q)) := (HC3.out.kept (w' := w3.alloc (.cells #[.int .i64 z] 3)) (by simp) (fun j _ hj => Below.heap_alloc _ _ _ hj)).kept hgrow.size (fun j hj hj2 => hgrow.block j hj2 (fun e => by have := hrow j e.symm; omega))
      have hB4 := (hB3.alloc (by omega) (.cells #[.int .i64 z] 3)).grown hgrow (by simp; omega) (fun j e => by have := hrow j e; omega)
      have HO4 : Hid (w4.ownsRow g 3 1 (.slice a4 (m + 1) cap4) (m + 1) ((out ++ [z]).map (Value.int .i64))) := by
        unfold Hid; rw [List.map_append]; exact hown'
      have hg4 : g ≤ w4.heap.size := by have := hgrow.size; simp at this; omega
      have hbl4 := Lib.hid (hbl.out)
      clear hown' hgrow hrow
      have hqd : (sd : Int) / (k : Int) = ((sd / k : Nat) : Int) := (Int.natCast_ediv sd k).symm
      have hd9 : sd / k ≤ sd := Nat.div_le_self sd k
      obtain ⟨d, hdd⟩ : ∃ d, sd / k = d := ⟨_, rfl⟩
      rw [hdd] at hqd hd9 HST
      clear hdd
      go_wp2
      go_roundw
      case rel =>
        refine ⟨k - 1, d, m + 1, bs.eraseIdx (q + 1), rest.eraseIdx q, out ++ [z], a4, cap4, by omega, by omega, by go_num, by rw [hqd, IntWalk.wrap64_in _ ⟨by omega, by omega⟩], rfl, H03.out, HC4.out, ?_, ?_, ?_, HO4.out, hB4, hg4⟩
        · unfold Hid; rw [erase_length hrl.out hqk]
        · unfold Hid; rw [List.length_eraseIdx, if_pos (by have := hbl.out; omega)]; have := hbl.out; omega
        · unfold Hid
          rw [← hall.out, HST.out, HZ.out, List.append_assoc]; rfl
      case measure => simp [intOf]; omega
    · obtain rfl : k = 0 := by omega
      have hgt : decide (0 < ((0 : Nat) : Int)) = false := by decide
      have hmn : m = n := by omega
      subst hmn
      have HL : Hid (out = lotsOf m s) := by
        have h1 : rest = [] := List.length_eq_zero_iff.1 hrl.out
        have h2 := hall.out
        rw [h1, lotR_nil, List.append_nil] at h2
        exact h2
      go_wp2
      go_ret2
      refine ⟨a, cap, rfl, ?_, hB⟩
      rw [← HL.out]
      exact ownsRow_low ho.out hwg

set_option maxHeartbeats 1000000 in
/-- **impl.LotsOf**, at arguments out of range. -/
theorem implLotsOf_no (n s : Int) (w : World) (h : okLots n s = false) :
    Calls Try.prog 22 #[.int .i64 n, .int .i64 s] w fun e w' => e = .returned (.tuple #[.slice none 0 0, .bool false]) ∧ w = w' := by
  by_cases h1 : n < 1
  · have hd1 : decide (n < 1) = true := decide_eq_true h1
    clear h
    go_enter Try.func22, Try.ntmps22
    go_wp2
    go_ret2
    exact ⟨rfl, rfl⟩
  · by_cases h5 : 5 < n
    · have hd1 : decide (n < 1) = false := decide_eq_false h1
      have hd5 : decide (5 < n) = true := decide_eq_true h5
      clear h
      go_enter Try.func22, Try.ntmps22
      go_wp2
      go_ret2
      exact ⟨rfl, rfl⟩
    · have hsv : inB s 0 999 = false := by
        rw [okLots, inB_yes (by omega) (by omega), Bool.true_and] at h; exact h
      have hd1 : decide (n < 1) = false := decide_eq_false h1
      have hd5 : decide (5 < n) = false := decide_eq_false h5
      have HSV := Lib.hid hsv; clear hsv h
      go_enter Try.func22, Try.ntmps22
      go_wp2_with fail
      refine (seed_any _ _).mono ?_
      rintro e w' ⟨he, rfl⟩
      rw [HSV.out] at he
      subst he
      go_wp2
      go_ret2
      exact ⟨rfl, rfl⟩

/-- **impl.LotsOf**. -/
theorem implLotsOf_any (n s : Int) (w : World) :
    Calls Try.prog 22 #[.int .i64 n, .int .i64 s] w (Told w (lotsI n s) (okLots n s)) := by
  cases h : okLots n s
  · refine (implLotsOf_no n s w h).mono ?_
    rintro e w' ⟨rfl, rfl⟩
    rw [lotsI_no h]
    exact ⟨none, 0, rfl, World.ownsRow_nil _ _ _ _, Below.refl _ _⟩
  · have hh := okLots_of h
    obtain ⟨m, rfl⟩ := Int.eq_ofNat_of_zero_le (show 0 ≤ n by omega)
    obtain ⟨q, rfl⟩ := Int.eq_ofNat_of_zero_le (show 0 ≤ s by omega)
    refine (implLotsOf_yes m q w (by omega) (by omega) (by omega)).mono ?_
    rintro e w' ⟨a, cap, rfl, ho, hb⟩
    have hl : (lotsI (m : Int) (q : Int)).length = m := by rw [lotsI_yes h, lotsOf_length, Int.toNat_natCast]
    refine ⟨a, cap, by rw [hl], ?_, hb⟩
    rw [hl, lotsI_yes h]; exact ho

/-- **impl.LotsOf**, its answer named. -/
theorem implLotsOf_as (n s : Int) (pl : List Int) (ok : Bool) (w : World) (h1 : lotsI n s = pl) (h2 : okLots n s = ok) :
    Calls Try.prog 22 #[.int .i64 n, .int .i64 s] w (Told w pl ok) := by
  subst h1; subst h2; exact implLotsOf_any n s w

end Go.Proofs.Ytbcemgmfkddafaa
