/-
  impl.leftCandidates and impl.take: a linked list of the candidates that are left is made, and one candidate is taken out of it. No condition but what each theorem says.
-/
import Derived.Test.YtapmmbngfklahaaChain
import Derived.Test.YtapmmbngfklahaaLotQ
namespace Go.Proofs.Ytapmmbngfklahaa
open Go.RowKit

set_option maxHeartbeats 1000000 in
/-- **leftCandidates**: a head, and behind it the candidates from 0 on. -/
theorem left_any (n : Nat) (w : World) (hn : n ≤ 5) :
    Calls Try.prog 35 #[.int .i64 (n : Int)] w fun e w' => ∃ bs, e = .returned (.pointer (some ⟨w.heap.size, 0, none⟩)) ∧ bs[0]?.getD 0 = w.heap.size ∧ Chain w' w.heap.size w'.heap.size bs (0 :: fromZero n) ∧ Below w.heap.size w w' := by
  have HC0 : Hid (Chain (w.alloc (.cells #[.int .i64 0, .pointer none] 57)) w.heap.size (w.heap.size + 1) [w.heap.size] (0 :: fromZero 0)) := Chain.start w _ _ (Nat.le_refl _)
  go_enter Try.func35, Try.ntmps35
  go_wp2
  go_loopw [4, 10] (fun l i wr => ∃ (k : Nat) (bs : List Nat) (b : Nat), k ≤ n ∧ i = .int .i64 k ∧ l = .pointer (some ⟨b, 0, none⟩) ∧ Hid (b = bs[k]?.getD 0) ∧ Hid (bs[0]?.getD 0 = w.heap.size) ∧ Hid (Chain wr w.heap.size wr.heap.size bs (0 :: fromZero k)) ∧ Below w.heap.size w wr ∧ w.heap.size + 1 ≤ wr.heap.size) (fun _ i _ => n - (intOf i).toNat)
  case atStart => exact ⟨0, [w.heap.size], w.heap.size, Nat.zero_le _, rfl, rfl, rfl, rfl, by unfold Hid; simpa using HC0.out, (Below.refl _ w).alloc (Nat.le_refl _) _, by simp⟩
  case round =>
    obtain ⟨k, bs, b, hk, rfl, rfl, hb, h0, hc, hB, hs⟩ := hrel
    by_cases hlt : k < n
    · have hl : bs.length = k + 1 := by have := hc.out.len; simpa [fromZero_length] using this
      have hnode := hc.out.node k (by omega)
      rw [← hb.out] at hnode
      have hbl := hnode.lt
      have hbw : w.heap.size ≤ b := by have := (hc.out.low k (by omega)).1; rw [← hb.out] at this; exact this
      have hadd := Lib.hid ((hc.out.raise (Nat.le_succ _)).added (t := 57) (z := (k : Int)) hl (by omega) (Nat.le_refl _))
      rw [← hb.out] at hadd
      have hA := hnode.block (w' := wr.alloc (.cells #[.int .i64 (k : Int), .pointer none] 57)) (by simp) (Below.heap_alloc _ _ _ hbl)
      have hA1 := hA.next
      have hA2 := hA.free
      have HL := Lib.hid hl
      have hB1 := hB.alloc (by omega) (.cells #[.int .i64 (k : Int), .pointer none] 57)
      have heq : (wr.alloc (.cells #[.int .i64 (k : Int), .pointer none] 57)).setCell ⟨b, 1, none⟩ (.pointer (some ⟨wr.heap.size, 0, none⟩)) = (wr.setCell ⟨b, 1, none⟩ (.pointer (some ⟨wr.heap.size, 0, none⟩))).alloc (.cells #[.int .i64 (k : Int), .pointer none] 57) := World.setCell_alloc_past _ _ _ _ hbl
      have hld : (wr.setCell ⟨b, 1, none⟩ (.pointer (some ⟨wr.heap.size, 0, none⟩))).cell? ⟨b, 1, none⟩ = some (.pointer (some ⟨wr.heap.size, 0, none⟩)) := World.cell?_setCell_same' _ _ _ (by rw [hnode.next]; rfl)
      have HE := Lib.hid heq; clear heq
      clear hnode hA hl
      go_wp2
      go_roundw
      case rel =>
        rw [← HE.out]
        refine ⟨k + 1, bs ++ [wr.heap.size], wr.heap.size, by omega, by go_num, rfl, ?_, ?_, ?_, hB1.setCell (p := ⟨b, 1, none⟩) hbw _, by simp [World.setCell]; omega⟩
        · unfold Hid; rw [← HL.out]; simp
        · unfold Hid; rw [List.getElem?_append_left (by rw [HL.out]; omega)]; exact h0.out
        · unfold Hid
          have := hadd.out
          rw [fromZero_succ]
          simpa [World.setCell] using this
      case measure => simp [intOf]; omega
    · obtain rfl : k = n := by omega
      go_wp2
      go_ret
      exact ⟨bs, rfl, h0.out, hc.out, hB⟩

set_option maxHeartbeats 1000000 in
/-- **take**: the candidate at a place is taken out of the list. -/
theorem take_any (B C h k : Nat) (bs : List Nat) (ns : List Int) (w : World) (hc : Chain w B C bs ns) (h0 : bs[0]?.getD 0 = h) (hk : k + 1 < bs.length) (hl : bs.length ≤ 1000000) :
    Calls Try.prog 36 #[.pointer (some ⟨h, 0, none⟩), .int .i64 (k : Int)] w fun e w' => e = .returned (.int .i64 (ns[k + 1]?.getD 0)) ∧ Chain w' B C (bs.eraseIdx (k + 1)) (ns.eraseIdx (k + 1)) ∧ Below B w w' ∧ ∃ r, r < C ∧ w.grownBy w' (some r) ∧ w'.heap.size = w.heap.size := by
  have HC := Lib.hid hc
  have H0 := Lib.hid h0; clear h0
  go_enter Try.func36, Try.ntmps36
  go_wp2
  go_loop [5, 9] (fun q i => ∃ (j b : Nat), j ≤ k ∧ i = .int .i64 j ∧ q = .pointer (some ⟨b, 0, none⟩) ∧ Hid (b = bs[j]?.getD 0)) (fun _ i => k - (intOf i).toNat)
  case atStart => exact ⟨0, h, Nat.zero_le _, rfl, rfl, H0.out.symm⟩
  case round =>
    obtain ⟨j, b, hj, rfl, rfl, hb⟩ := hrel
    have hnode := HC.out.node j (by omega)
    rw [← hb.out, nextV_some (by omega)] at hnode
    have hn1 := hnode.num
    have hn2 := hnode.next
    have hn3 := hnode.free
    obtain ⟨b2, hb2⟩ : ∃ b2, bs[j + 1]?.getD 0 = b2 := ⟨_, rfl⟩
    rw [hb2] at hn2
    have HB2 := Lib.hid hb2
    by_cases hlt : j < k
    · clear hb2 hnode
      go_wp2
      go_round
      case rel => exact ⟨j + 1, b2, by omega, by go_num, rfl, HB2.out.symm⟩
      case measure => simp [intOf]; omega
    · obtain rfl : j = k := by omega
      have hnode2 := HC.out.node (j + 1) hk
      rw [hb2] at hnode2
      have hm1 := hnode2.num
      have hm2 := hnode2.next
      have hlow := (HC.out.low j (by omega))
      rw [← hb.out] at hlow
      have htk := Lib.hid (HC.out.taken hk)
      rw [← hb.out] at htk
      have hne : b ≠ b2 := by
        rw [hb.out, ← hb2]
        intro e
        have := at_inj HC.out.dis (show j < bs.length by omega) hk e
        omega
      obtain ⟨v, hv⟩ : ∃ v, nextV bs (j + 1 + 1) = .pointer v := ⟨_, rfl⟩
      rw [hv] at hm2 htk
      have hm3 : (w.setCell ⟨b, 1, none⟩ (.pointer v)).cell? ⟨b2, 0, none⟩ = some (.int .i64 (ns[j + 1]?.getD 0)) := by
        rw [World.cell?_setCell_other _ _ _ _ (by intro e; injection e with e1; exact hne e1)]; exact hm1
      have hlo := hlow.1
      have hhi := hlow.2
      obtain ⟨z, hz⟩ : ∃ z, ns[j + 1]?.getD 0 = z := ⟨_, rfl⟩
      rw [hz] at hm3 hm1
      have HZ := Lib.hid hz
      clear hb2 hnode hnode2 hlow hv hz
      go_wp2
      go_ret
      refine ⟨ret_int HZ.out.symm, htk.out, (Below.refl B w).setCell (p := ⟨b, 1, none⟩) hlo _, b, hhi, ⟨rfl, rfl, rfl, by simp [World.setCell], fun i hi hne => Below.heap_setCell _ _ _ _ (fun e => hne (by rw [e]))⟩, by simp [World.setCell]⟩

end Go.Proofs.Ytapmmbngfklahaa
