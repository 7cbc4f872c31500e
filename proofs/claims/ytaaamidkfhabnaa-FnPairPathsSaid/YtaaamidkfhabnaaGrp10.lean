/-
  The statements' own small functions (toIntS, eqIntS, toBoolS, eqBoolS, markIntS, heldIntS): what each returns, and that it writes only into memory of its own. No condition but what each theorem says.
  markIntS and heldIntS: the first writes ascending numbers into a slice of the caller's own, the second finds them again.
  markIntS writes into the one block of its slice.
  spec.MarksOf and impl.MarksOf answer alike, for every ballot of at most 1048600 ints and every number; both write into no memory that was there, and what they return is memory of their own.
  The statements' own small functions at slices of slices of ints: szIntSS, toIntSS, eqIntSS, markIntSS. No condition but what each theorem says.
  spec.l13Range and spec.l13Counts: the candidates, and the table of preferences, in memory of the call's own.
  impl.pairTable.add and impl.newPairTable: the table of preferences of piles that fit.
  impl.newPairTable: the table of preferences of piles that fit, or nothing.
-/
import Derived.Test.YtaaamidkfhabnaaGrp2
import Derived.Laws.OwnMore
import Derived.OwnWalk
import Derived.Test.YtaaamidkfhabnaaGrp4
import Derived.Test.YtaaamidkfhabnaaGrp3
import Derived.Test.YtaaamidkfhabnaaGrp1
import Derived.Test.YtaaamidkfhabnaaValid
import Derived.Test.YtaaamidkfhabnaaGrp6
import Derived.Deep.Onto
import Derived.Test.YtaaamidkfhabnaaGrp7
import Derived.Test.YtaaamidkfhabnaaGrp8
import Derived.Test.YtaaamidkfhabnaaPrefers
import Derived.Test.YtaaamidkfhabnaaGrp5
import Derived.StillTailTactics
import Derived.Test.YtaaamidkfhabnaaPtab
import Derived.Test.YtaaamidkfhabnaaGrp9
namespace Go.Proofs.Ytaaamidkfhabnaa
open Go.RowKit

set_option maxHeartbeats 1000000 in
/-- **eqIntS**: whether two lists are equal. -/
theorem eqIntS_any (a : Option Addr) (len cap : Nat) (zs : List Int) (b : Option Addr) (len' cap' : Nat) (ys : List Int) (w : World) (h : IsInts w a len cap zs) (h' : IsInts w b len' cap' ys) :
    Calls Try.prog 73 #[.slice a len cap, .slice b len' cap'] w fun e w' => e = .returned (.bool (eqB zs ys)) ∧ Dr w w' := by
  by_cases hl : len = len'
  · subst hl
    have hne : ((len : Int) != (len : Int)) = false := by simp
    have hm := h.2.2.1
    have H := Lib.hid h; clear h
    have H' := Lib.hid h'; clear h'
    go_enter Try.func73, Try.ntmps73
    go_wp2
    go_loopw [5] (fun i wr => ∃ k : Nat, k ≤ len ∧ i = .int .i64 k ∧ Hid (zs.take k = ys.take k) ∧ Dr w wr) (fun i _ => len - (intOf i).toNat)
    case atStart => exact ⟨0, Nat.zero_le _, rfl, by simp [Hid], Dr.refl _⟩
    case round =>
      obtain ⟨k, hk, rfl, ht, hd⟩ := hrel
      obtain ⟨h1, _, _, h4⟩ := H.out.dr hd
      obtain ⟨g1, _, _, g4⟩ := H'.out.dr hd
      have H1 := Lib.hid h1; clear h1
      have G1 := Lib.hid g1; clear g1
      by_cases hlt : k < len
      · obtain ⟨b1, o1, rfl, hb1, hc1⟩ := h4 (by omega)
        obtain ⟨b2, o2, rfl, hb2, hc2⟩ := g4 (by omega)
        have hz := hc1 k hlt
        have hy := hc2 k hlt
        clear hc1 hc2 h4 g4
        cases he : (zs[k]?.getD 0 == ys[k]?.getD 0)
        · have hn : (zs[k]?.getD 0 != ys[k]?.getD 0) = true := by simp [bne, he]
          have HE := Lib.hid he; clear he
          go_wp2
          go_quiet (fail)
          go_wp2
          go_ret
          exact ⟨ret_bool (take_part zs ys k HE.out).symm, hd.drewN _⟩
        · have hn : (zs[k]?.getD 0 != ys[k]?.getD 0) = false := by simp [bne, he]
          have HE := Lib.hid he; clear he
          go_wp2
          go_quiet (fail)
          go_wp2
          go_roundw
          case rel => exact ⟨k + 1, by omega, by go_num, take_step zs ys k (by rw [H1.out]; omega) (by rw [G1.out]; omega) ht.out (by simpa using HE.out), hd.drewN _⟩
          case measure => simp [intOf]; omega
      · obtain rfl : k = len := by omega
        clear h4 g4
        go_wp2
        go_ret
        refine ⟨ret_bool ?_, hd⟩
        have := ht.out
        rw [List.take_of_length_le (by rw [H1.out]; omega), List.take_of_length_le (by rw [G1.out]; omega)] at this
        rw [this, eqB_self]
  · have hne : ((len : Int) != (len' : Int)) = true := by rw [bne_iff_ne]; omega
    have e : eqB zs ys = false := by
      simp only [eqB, decide_eq_false_iff_not]
      rintro rfl
      exact hl (h.1.symm.trans h'.1)
    rw [e]
    clear e h h' hl
    go_enter Try.func73, Try.ntmps73
    go_wp2
    go_ret
    exact ⟨rfl, Dr.refl _⟩

end Go.Proofs.Ytaaamidkfhabnaa

namespace Go.Proofs.Ytaaamidkfhabnaa
open Go.RowKit

/-- Ascending numbers from k on. -/
def marks (k : Int) (n : Nat) : List Int := (List.range n).map fun (j : Nat) => k + (j : Int)
theorem marks_length (k : Int) (n : Nat) : (marks k n).length = n := by simp [marks]
theorem marks_succ (k : Int) (n : Nat) : marks k (n + 1) = marks k n ++ [k + (n : Int)] := by simp [marks, List.range_succ]
theorem marks_at (k : Int) (n j : Nat) (h : j < n) : (marks k n)[j]?.getD 0 = k + (j : Int) := by simp [marks, h]

/-- The first j are marked. -/
def markTo (xs : List Value) (k : Int) (j : Nat) : List Value := (marks k j).map (Value.int .i64) ++ xs.drop j
theorem markTo_step (xs : List Value) (k : Int) (j : Nat) (h : j < xs.length) : (markTo xs k j).set j (.int .i64 (k + (j : Int))) = markTo xs k (j + 1) := by
  have hl : ((marks k j).map (Value.int .i64)).length = j := by simp [marks]
  unfold markTo
  rw [marks_succ, List.map_append, List.append_assoc, List.set_append_right _ _ (by omega), hl, Nat.sub_self, List.drop_eq_getElem_cons h, List.set_cons_zero]
  rfl

set_option maxHeartbeats 1000000 in
/-- **markIntS**. -/
theorem markInt_any (base : Nat) (a : Option Addr) (len cap : Nat) (xs : List Value) (k : Int) (w : World) (h : w.ownsRow base 3 1 (.slice a len cap) len xs) (hl : len ≤ 1048600) (hk0 : 0 ≤ k) (hk : k ≤ 1000000000000) :
    Calls Try.prog 76 #[.slice a len cap, .int .i64 k] w fun e w' => e = .returned (.int .i64 (k + (len : Int))) ∧ w'.ownsRow base 3 1 (.slice a len cap) len ((marks k len).map (Value.int .i64)) ∧ Below base w w' := by
  have hxl : xs.length = len := by have := h.1; omega
  have HX := Lib.hid hxl; clear hxl
  have HO : Hid (w.ownsRow base 3 1 (.slice a len cap) len (markTo xs k 0)) := by unfold Hid; simpa [markTo, marks] using h
  clear h
  go_enter Try.func76, Try.ntmps76
  go_wp2
  go_loopw [1, 5] (fun q i wr => ∃ j : Nat, j ≤ len ∧ i = .int .i64 j ∧ q = .int .i64 (k + (j : Int)) ∧ Hid (wr.ownsRow base 3 1 (.slice a len cap) len (markTo xs k j)) ∧ Below base w wr) (fun _ i _ => len - (intOf i).toNat)
  case atStart => exact ⟨0, Nat.zero_le _, rfl, by simp, HO, Below.refl _ _⟩
  case round =>
    obtain ⟨j, hj, rfl, rfl, ho, hB⟩ := hrel
    by_cases hlt : j < len
    · obtain ⟨g, hg, hgb⟩ : ∃ g, a = some ⟨g, 0, none⟩ ∧ base ≤ g := by
        rcases ho.out.2 with ⟨_, e0⟩ | ⟨g, c, _, e, hb, _⟩
        · omega
        · injection e with e1 _ _; exact ⟨g, e1, hb⟩
      subst hg
      have hfz := ho.out.frozenAt j
      have hcg := ho.out.cellAt j (by omega)
      have hlen : j < (markTo xs k j).length := by simp [markTo, marks, HX.out]; omega
      rw [List.getElem?_eq_getElem hlen] at hcg
      obtain ⟨v0, hv0⟩ : ∃ v0, (markTo xs k j)[j] = v0 := ⟨_, rfl⟩
      rw [hv0] at hcg
      clear hv0 hlen
      have HS := Lib.hid (ho.out.stored j (.int .i64 (k + (j : Int))))
      go_wp2
      go_roundw
      case rel => exact ⟨j + 1, by omega, by go_num, by push_cast; rw [Int.add_assoc], by unfold Hid; rw [← markTo_step xs k j (by rw [HX.out]; exact hlt)]; exact HS.out.1, hB.setCell (p := ⟨g, j, none⟩) hgb _⟩
      case measure => simp [intOf]; omega
    · obtain rfl : j = len := by omega
      go_wp2
      go_ret
      refine ⟨rfl, ?_, hB⟩
      have := ho.out
      rwa [markTo, List.drop_of_length_le (by rw [HX.out]; omega), List.append_nil] at this

set_option maxHeartbeats 1000000 in
/-- **heldIntS**. -/
theorem heldInt_any (a : Option Addr) (len cap : Nat) (k : Int) (w : World) (h : IsInts w a len cap (marks k len)) (hk0 : 0 ≤ k) (hk : k ≤ 1000000000000) :
    Calls Try.prog 77 #[.slice a len cap, .int .i64 k] w fun e w' => e = .returned (.int .i64 (k + (len : Int))) ∧ w = w' := by
  have hm := h.2.2.1
  have H4 := Lib.hid h.2.2.2; clear h
  go_enter Try.func77, Try.ntmps77
  go_wp2
  go_loop [1, 5] (fun q i => ∃ j : Nat, j ≤ len ∧ i = .int .i64 j ∧ q = .int .i64 (k + (j : Int))) (fun _ i => len - (intOf i).toNat)
  case atStart => exact ⟨0, Nat.zero_le _, rfl, by simp⟩
  case round =>
    obtain ⟨j, hj, rfl, rfl⟩ := hrel
    by_cases hlt : j < len
    · obtain ⟨b, o, rfl, hb, hc⟩ := H4.out (by omega)
      have hz := hc j hlt
      rw [marks_at k len j hlt] at hz
      clear hc
      have hne : (k + (j : Int) != k + (j : Int)) = false := by simp
      go_wp2
      go_round
      case rel => exact ⟨j + 1, by omega, by go_num, by push_cast; rw [Int.add_assoc]⟩
      case measure => simp [intOf]; omega
    · obtain rfl : j = len := by omega
      go_wp2
      go_ret
      exact ⟨rfl, rfl⟩

end Go.Proofs.Ytaaamidkfhabnaa

namespace Go.Proofs.Ytaaamidkfhabnaa
open Go.RowKit

theorem Step.of_setCell {w w' : World} {R j : Nat} {v : Value} (h : Step R w w') : Step R w (w'.setCell ⟨R, j, none⟩ v) :=
  ⟨h.os, h.tape, h.output, by have := h.size; simpa [World.setCell] using this, fun k hk hne => (Below.heap_setCell _ _ _ _ (fun e => hne (by rw [e]))).trans (h.block k hk hne)⟩

set_option maxHeartbeats 1000000 in
/-- **markIntS**, at a block of the caller's own: that block alone is written. -/
theorem markInt_step (base g len cap : Nat) (xs : List Value) (k : Int) (w : World) (h : w.ownsRow base 3 1 (.slice (some ⟨g, 0, none⟩) len cap) len xs) (hl : len ≤ 1048600) (hk0 : 0 ≤ k) (hk : k ≤ 4000000000000000000) :
    Calls Try.prog 76 #[.slice (some ⟨g, 0, none⟩) len cap, .int .i64 k] w fun e w' => e = .returned (.int .i64 (k + (len : Int))) ∧ w'.ownsRow base 3 1 (.slice (some ⟨g, 0, none⟩) len cap) len ((marks k len).map (Value.int .i64)) ∧ Step g w w' := by
  have hxl : xs.length = len := by have := h.1; omega
  have HX := Lib.hid hxl; clear hxl
  have HO : Hid (w.ownsRow base 3 1 (.slice (some ⟨g, 0, none⟩) len cap) len (markTo xs k 0)) := by unfold Hid; simpa [markTo, marks] using h
  clear h
  go_enter Try.func76, Try.ntmps76
  go_wp2
  go_loopw [1, 5] (fun q i wr => ∃ j : Nat, j ≤ len ∧ i = .int .i64 j ∧ q = .int .i64 (k + (j : Int)) ∧ Hid (wr.ownsRow base 3 1 (.slice (some ⟨g, 0, none⟩) len cap) len (markTo xs k j)) ∧ Step g w wr) (fun _ i _ => len - (intOf i).toNat)
  case atStart => exact ⟨0, Nat.zero_le _, rfl, by simp, HO, Step.refl _ _⟩
  case round =>
    obtain ⟨j, hj, rfl, rfl, ho, hB⟩ := hrel
    by_cases hlt : j < len
    · have hfz := ho.out.frozenAt j
      have hcg := ho.out.cellAt j (by omega)
      have hlen : j < (markTo xs k j).length := by simp [markTo, marks, HX.out]; omega
      rw [List.getElem?_eq_getElem hlen] at hcg
      obtain ⟨v0, hv0⟩ : ∃ v0, (markTo xs k j)[j] = v0 := ⟨_, rfl⟩
      rw [hv0] at hcg
      clear hv0 hlen
      have HS := Lib.hid (ho.out.stored j (.int .i64 (k + (j : Int))))
      go_wp2
      go_roundw
      case rel => exact ⟨j + 1, by omega, by go_num, by push_cast; rw [Int.add_assoc], by unfold Hid; rw [← markTo_step xs k j (by rw [HX.out]; exact hlt)]; exact HS.out.1, hB.of_setCell⟩
      case measure => simp [intOf]; omega
    · obtain rfl : j = len := by omega
      go_wp2
      go_ret
      refine ⟨rfl, ?_, hB⟩
      have := ho.out
      rwa [markTo, List.drop_of_length_le (by rw [HX.out]; omega), List.append_nil] at this

end Go.Proofs.Ytaaamidkfhabnaa

namespace Go.Proofs.Ytaaamidkfhabnaa
open Go.RowKit Go.Shelf

attribute [local go_sem] Oper.semAt_some

/-- 'make([]T, n)' in a fenced walk. -/
theorem make_full_in {F : Fence} {n : Nat} {P : Program} (w : World) {ops : Array Oper} {rest : List Oper} {o : Oper} {a : Act} {Q : Exit → Act → World → Prop}
    (hg : o.guard = none) (l c : Operand) (t : TypeId) (hop : o.op = Op.makeSlice t l c)
    (base : Nat) (e : TypeId) (i : TypeInfo) (z : Value) (size : Nat) (h1 : P.underlying t = some (.slice e)) (h2 : P.info? e = some i) (h3 : i.zero = some z) (h4 : i.size = size)
    (kl kc : IntKind) (L C : Int) (m : Nat) (hl : a.eval l = .int kl L) (hc : a.eval c = .int kc C) (hL : L = (m : Int)) (hC : C = (m : Int)) (b2 : i.bytes * m ≤ 281474976710656) (b3 : m ≤ maxLen) (b4 : base ≤ w.heap.size)
    (hK : ∀ w', w'.ownsRow base e size (.slice (some ⟨w.heap.size, 0, none⟩) m m) m (madeCells z.cells (m * size)).toList → w.grownBy w' none → wpListIn F n P ops Q rest (a.put o.dst (.slice (some ⟨w.heap.size, 0, none⟩) m m)) w') :
    wpListIn F n P ops Q (o :: rest) a w := by
  subst hL; subst hC
  obtain ⟨w', hrun, r1, r2⟩ := run_make_full (P := P) w base t e i z size h1 h2 h3 h4 kl kc m b2 b3 b4
  refine wpListIn_plain hg fun K hK' => ?_
  have hcall : ∀ x : Oper → Prop, x o → x o := fun _ h => h
  unfold Oper.wpIn
  constructor
  · simp [Oper.about, hop]
  · rw [Oper.semAt_plain F _ _ (by rw [hop]; intro c' hc'; cases hc')]
    simp only [execOp, hop, hl, hc]
    simp [hrun, Result.andThen]
    exact hK' _ _ (hK w' r1 r2)

/-- A variable's box whose value hangs on what has come. -/
theorem boxed_own {β : Type} (B : Nat) (t : TypeId) (f : β → Value) : Own (fun s W => Boxed W B t (f s)) := by
  intro s X Y row hv hg hrow
  refine hv.kept hg (fun e' => ?_)
  obtain ⟨o, ho, hc⟩ := hrow B e'.symm
  rw [show X.heap[B]? = _ from hv] at ho; cases ho; cases hc

/-- A candidate's number, below m. -/
abbrev Cn (m : Nat) := { z : Int // 0 ≤ z ∧ z < (m : Int) }

end Go.Proofs.Ytaaamidkfhabnaa

namespace Go.Proofs.Ytaaamidkfhabnaa
open Go.RowKit

theorem slice_info : (Try.prog.info? 30).map (fun i => (i.zero, i.size, i.bytes)) = some (some (.slice none 0 0), 1, 24) := by kernel_rfl

/-- A slice of slices of ints that came in. -/
def IsRowSS (w : World) (a : Option Addr) (len cap : Nat) (A : Nat → Option Addr) (L C : Nat → Nat) (Z : Nat → List Int) : Prop :=
  (a = none ∧ len = 0 ∧ cap = 0) ∨ ∃ x, a = some x ∧ len ≤ cap ∧ cap ≤ maxLen ∧
    ∀ r, r < cap → w.cell? (x.add r) = some (.slice (A r) (L r) (C r)) ∧ L r ≤ C r ∧ C r ≤ maxLen ∧ (Z r).length = C r ∧ (A r = none → C r = 0) ∧ ∀ a', A r = some a' → ∀ c, c < C r → w.cell? (a'.add c) = some (.int .i64 ((Z r).getD c 0))

theorem IsRowSS.len_le {w : World} {a : Option Addr} {len cap : Nat} {A : Nat → Option Addr} {L C : Nat → Nat} {Z : Nat → List Int} (h : IsRowSS w a len cap A L C Z) : len ≤ maxLen := by
  rcases h with ⟨_, h, _⟩ | ⟨x, _, h1, h2, _⟩ <;> unfold maxLen at * <;> omega
theorem IsRowSS.head {w : World} {a : Option Addr} {len cap : Nat} {A : Nat → Option Addr} {L C : Nat → Nat} {Z : Nat → List Int} (h : IsRowSS w a len cap A L C Z) (hp : 0 < len) :
    ∃ b off, a = some ⟨b, off, none⟩ ∧ b < w.heap.size ∧ ∀ j, j < len → w.cell? ⟨b, off + j, none⟩ = some (.slice (A j) (L j) (C j)) ∧ L j ≤ maxLen := by
  rcases h with ⟨_, h, _⟩ | ⟨⟨b, off, spot⟩, rfl, h1, h2, h3⟩
  · omega
  · have h0 := (h3 0 (by omega)).1
    have hs : spot = none := by simpa [Addr.add] using World.cell?_spot h0
    subst hs
    refine ⟨b, off, rfl, World.block_lt_of_cell? w _ h0, fun j hj => ?_⟩
    obtain ⟨g1, g2, g3, _⟩ := h3 j (by omega)
    rw [add_spot] at g1
    exact ⟨g1, by omega⟩
theorem IsRowSS.rows {w : World} {a : Option Addr} {len cap : Nat} {A : Nat → Option Addr} {L C : Nat → Nat} {Z : Nat → List Int} (h : IsRowSS w a len cap A L C Z) (hl : len ≤ 1048576) (hL : ∀ j, j < len → L j ≤ 1048576) :
    IsRows w a len cap ((List.range len).map fun r => (Z r).take (L r)) := by
  rcases h with ⟨rfl, rfl, rfl⟩ | ⟨⟨b, off, spot⟩, rfl, h1, h2, h3⟩
  · exact ⟨rfl, Nat.le_refl _, by omega, fun h => by omega⟩
  · refine ⟨by simp, h1, by omega, fun hp => ?_⟩
    have h0 := (h3 0 (by omega)).1
    have hs : spot = none := by simpa [Addr.add] using World.cell?_spot h0
    subst hs
    refine ⟨b, off, rfl, World.block_lt_of_cell? w _ h0, fun j hj => ?_⟩
    obtain ⟨g1, g2, g3, g4, g5, g6⟩ := h3 j (by omega)
    rw [add_spot] at g1
    refine ⟨A j, L j, C j, g1, ?_⟩
    have e : ((List.range len).map fun r => (Z r).take (L r))[j]?.getD [] = (Z j).take (L j) := by simp [hj]
    rw [e]
    refine ⟨by simp; omega, g2, by have := hL j hj; omega, fun hp2 => ?_⟩
    cases hA : A j with
    | none => have := g5 hA; omega
    | some a' =>
      obtain ⟨b', off', spot'⟩ := a'
      have k0 := g6 _ hA 0 (by omega)
      have hs' : spot' = none := by simpa [Addr.add] using World.cell?_spot k0
      subst hs'
      refine ⟨b', off', rfl, World.block_lt_of_cell? w _ k0, fun i hi => ?_⟩
      have := g6 _ hA i (by omega)
      rw [List.getElem?_take_of_lt hi]
      rw [add_spot] at this
      simpa [List.getD] using this

theorem quiet_dr {P : Program} {f : FuncId} {args : Array Value} {w : World} {n : Nat} {v : Value}
    (h : Calls P f args (w.drewN n) fun e w' => e = .returned v ∧ Dr (w.drewN n) w') : Calls P f args (w.drewN n) fun e w'' => e = .returned v ∧ ∃ m, w'' = w.drewN m :=
  h.mono fun _ _ ⟨he, q, hq⟩ => ⟨he, n + q, by rw [hq]; simp⟩

set_option maxHeartbeats 1000000 in
/-- **eqIntSS**, at equal rows. -/
theorem eqIntSS_same (a : Option Addr) (len cap : Nat) (b : Option Addr) (cap' : Nat) (rs : List (List Int)) (w : World) (h : IsRows w a len cap rs) (h' : IsRows w b len cap' rs) :
    Calls Try.prog 38 #[.slice a len cap, .slice b len cap'] w fun e w' => e = .returned (.bool true) ∧ Dr w w' := by
  have hm := h.2.2.1
  have hne : ((len : Int) != (len : Int)) = false := by simp
  have H := Lib.hid h; clear h
  have H' := Lib.hid h'; clear h'
  go_enter Try.func38, Try.ntmps38
  go_wp2
  go_loopw [5] (fun i wr => ∃ k : Nat, k ≤ len ∧ i = .int .i64 k ∧ Dr w wr) (fun i _ => len - (intOf i).toNat)
  case atStart => exact ⟨0, Nat.zero_le _, rfl, Dr.refl _⟩
  case round =>
    obtain ⟨k, hk, rfl, hd⟩ := hrel
    by_cases hlt : k < len
    · obtain ⟨-, -, -, h4⟩ := H.out.dr hd
      obtain ⟨-, -, -, g4⟩ := H'.out.dr hd
      obtain ⟨b1, o1, rfl, hb1, hc1⟩ := h4 (by omega)
      obtain ⟨b2, o2, rfl, hb2, hc2⟩ := g4 (by omega)
      obtain ⟨a1, l1, c1, hz, hI1⟩ := hc1 k hlt
      obtain ⟨a2, l2, c2, hy, hI2⟩ := hc2 k hlt
      obtain ⟨z, hzz⟩ : ∃ z, rs[k]?.getD [] = z := ⟨_, rfl⟩
      rw [hzz] at hI1 hI2
      have HI1 := Lib.hid hI1
      have HI2 := Lib.hid hI2
      have he : eqB z z = true := eqB_self z
      clear h4 g4 hc1 hc2 hI1 hI2 hzz
      go_wp2
      go_quiet (first | (go_at_call 73; exact quiet_dr (eqIntS_any _ _ _ z _ _ _ z _ (HI1.out.drewN _) (HI2.out.drewN _))))
      go_wp2
      go_roundw
      case rel => exact ⟨k + 1, by omega, by go_num, hd.drewN _⟩
      case measure => simp [intOf]; omega
    · obtain rfl : k = len := by omega
      go_wp2
      go_ret
      exact ⟨rfl, hd⟩

end Go.Proofs.Ytaaamidkfhabnaa

namespace Go.Proofs.Ytaaamidkfhabnaa
open Go.RowKit

attribute [local go_sem] Oper.semAt_some

set_option maxHeartbeats 1000000 in
/-- **l13Range**. -/
theorem l13Range_any (n : Nat) (w : World) (hn : n ≤ 1048576) :
    Calls Try.prog 54 #[.int .i64 (n : Int)] w fun e w' => ∃ a cap, e = .returned (.slice a n cap) ∧ w'.ownsRow w.heap.size 3 1 (.slice a n cap) n ((fromZero n).map (Value.int .i64)) ∧ Below w.heap.size w w' := by
  obtain ⟨i0, hi, hz0, hz1, hz2⟩ := info_parts int_info
  have HE0 := Lib.hid (World.ownsRow_lit (base := w.heap.size) (e := 3) (size := 1) w #[] 0 (Nat.le_refl _) (by unfold maxLen; omega) rfl)
  have HB0 : Below w.heap.size w (w.alloc (.cells #[] 3)) := (Below.refl _ w).alloc (Nat.le_refl _) _
  go_enter Try.func54, Try.ntmps54
  go_wp2
  go_loopw [3, 4] (fun rv iv wr => ∃ (k : Nat) (a : Option Addr) (cap : Nat), k ≤ n ∧ iv = .int .i64 (k : Int) ∧ rv = .slice a k cap ∧ Hid (wr.ownsRow w.heap.size 3 1 (.slice a k cap) k ((fromZero k).map (Value.int .i64))) ∧ Below w.heap.size w wr) (fun _ iv _ => n - (intOf iv).toNat)
  case atStart => exact ⟨0, _, _, Nat.zero_le _, rfl, rfl, HE0.out, HB0⟩
  case round =>
    obtain ⟨k, a, cap, hk, rfl, rfl, ho, hB⟩ := hrel
    by_cases hlt : k < n
    · go_wp2_with (at_builtin; refine wpList_append_own _ rfl _ _ 30 rfl w.heap.size 3 i0 (.int .i64 0) 1 8 Try.underlying30 hi hz0 hz1 hz2 rfl (by decide) _ _ _ rfl (ho.out.alloc _) ⟨wr.heap.size, 0, none⟩ 1 1 [.int .i64 (k : Int)] rfl rfl (cell_one_new _ _ _) (by simp [Value.oneCell']) (by unfold maxLen; omega) (by omega) (by have := hB.size; simp; omega) ?_; intro v' w4 hown' hgrow _; obtain ⟨a4, cap4, rfl⟩ := owns_slice hown')
      have hrow : ∀ j, (Value.slice a k cap).ownBlock = some j → w.heap.size ≤ j := fun j ej => (ho.out.lt j ej).1
      have hB4 := (hB.alloc hB.size (.cells #[.int .i64 (k : Int)] 3)).grown hgrow (by have := hB.size; simp; omega) (fun j e => hrow j e)
      have HO4 : Hid (w4.ownsRow w.heap.size 3 1 (.slice a4 (k + 1) cap4) (k + 1) ((fromZero (k + 1)).map (Value.int .i64))) := by
        unfold Hid; rw [fromZero_succ, List.map_append]; exact hown'
      clear hown' hgrow hrow
      go_wp2
      go_roundw
      case rel => exact ⟨k + 1, a4, cap4, by omega, by go_num, rfl, HO4.out, hB4⟩
      case measure => simp [intOf]; omega
    · obtain rfl : k = n := by omega
      go_wp2
      go_ret
      exact ⟨a, cap, rfl, ho.out, hB⟩

theorem pairF_next {ps : List Pl} {k : Nat} (h : k < ps.length) (x y : Nat) : pairF (ps.take (k + 1)) x y = pairF (ps.take k) x y + (if prefB (parseL (tAt ps k)) (x : Int) (y : Int) = true then mAt ps k else 0) := by
  rw [take_one h, pairF_snoc]
theorem pairF_zero (x y : Nat) : pairF [] x y = 0 := rfl
theorem pairF_most {ps : List Pl} (h : pilesB ps = true) (k x y : Nat) : 0 ≤ pairF (ps.take k) x y ∧ pairF (ps.take k) x y ≤ 1188 := by
  have hp := pilesB_pos h
  have h1 : ∀ p ∈ ps.take k, 1 ≤ p.2 := fun p hm => hp.2.1 p (List.mem_of_mem_take hm)
  have a := pairF_low h1 x y
  have b := pairF_low h1 y x
  have c := pairF_two h1 x y
  have d : sumL (ps.take k) ≤ 99 * ((ps.take k).length : Int) := by
    have h2 : ∀ p ∈ ps.take k, p.2 ≤ 99 := fun p hm => hp.2.2.1 p (List.mem_of_mem_take hm)
    generalize ps.take k = l at h2
    induction l with
    | nil => simp [sumL]
    | cons p l ih =>
      have := ih (fun q hq => h2 q (List.mem_cons_of_mem _ hq))
      have := h2 p (by simp)
      rw [sumL_cons, List.length_cons]; push_cast; omega
  have e : (ps.take k).length ≤ 12 := Nat.le_trans (List.length_take_le' _ _) hp.2.2.2.2
  omega

/-- The row that is being filled: the first y candidates have the next pile's ballots, too. -/
def rowF (ps : List Pl) (x i y : Nat) : Nat → Value := fun j => .int .i64 (if j < y then pairF (ps.take (i + 1)) x j else pairF (ps.take i) x j)
theorem rowF_start (ps : List Pl) (x i n : Nat) : (List.range n).map (rowF ps x i 0) = (List.range n).map (fun j => Value.int .i64 (pairF (ps.take i) x j)) := by
  refine List.map_congr_left (fun j _ => ?_)
  unfold rowF; rw [if_neg (Nat.not_lt_zero _)]
theorem rowF_end (ps : List Pl) (x i n : Nat) : (List.range n).map (rowF ps x i n) = (List.range n).map (fun j => Value.int .i64 (pairF (ps.take (i + 1)) x j)) := by
  refine List.map_congr_left (fun j hj => ?_)
  unfold rowF; rw [if_pos (List.mem_range.1 hj)]
theorem rowF_at (ps : List Pl) (x i y : Nat) : rowF ps x i y y = .int .i64 (pairF (ps.take i) x y) := by unfold rowF; rw [if_neg (Nat.lt_irrefl _)]
theorem rowF_hit {ps : List Pl} {x i y n : Nat} (hi : i < ps.length) (h : prefB (parseL (tAt ps i)) (x : Int) (y : Int) = true) :
    ((List.range n).map (rowF ps x i y)).set y (.int .i64 (pairF (ps.take i) x y + mAt ps i)) = (List.range n).map (rowF ps x i (y + 1)) := by
  apply List.ext_getElem
  · simp
  · intro j h1 h2
    simp only [List.getElem_set, List.getElem_map, List.getElem_range]
    by_cases e : y = j
    · subst e
      rw [if_pos rfl]; unfold rowF; rw [if_pos (Nat.lt_succ_self _), pairF_next hi, if_pos h]
    · rw [if_neg e]; unfold rowF
      by_cases e2 : j < y
      · rw [if_pos e2, if_pos (by omega)]
      · rw [if_neg e2, if_neg (by omega)]
theorem rowF_miss {ps : List Pl} {x i y n : Nat} (hi : i < ps.length) (h : prefB (parseL (tAt ps i)) (x : Int) (y : Int) = false) :
    (List.range n).map (rowF ps x i y) = (List.range n).map (rowF ps x i (y + 1)) := by
  refine List.map_congr_left (fun j _ => ?_)
  unfold rowF
  by_cases e : j = y
  · subst e; rw [if_neg (Nat.lt_irrefl _), if_pos (Nat.lt_succ_self _), pairF_next hi, h]; simp
  · by_cases e2 : j < y
    · rw [if_pos e2, if_pos (by omega)]
    · rw [if_neg e2, if_neg (by omega)]
theorem zero_row (n : Nat) (ps : List Pl) (x : Nat) : (madeCells (Value.int .i64 0).cells (n * 1)).toList = (List.range n).map (fun j => Value.int .i64 (pairF (ps.take 0) x j)) := by
  rw [show (Value.int .i64 0).cells = #[.int .i64 0] from rfl, toList_madeCells_one, List.take_zero]
  simp only [pairF_zero]
  rw [Nat.mul_one]
  apply List.ext_getElem
  · simp
  · intro i h1 h2; simp

end Go.Proofs.Ytaaamidkfhabnaa

namespace Go.Proofs.Ytaaamidkfhabnaa
open Go.RowKit

attribute [local go_sem] Oper.semAt_some

/-- A table of the call's own. -/
structure OwnPT (w : World) (g n : Nat) (M : Nat → Nat → Int) : Prop where
  is : IsPT w g n M
  free : ∀ o, w.frozen? ⟨g, o, none⟩ = false
theorem OwnPT.below {w w' : World} {g n : Nat} {M : Nat → Nat → Int} (h : OwnPT w g n M) (hb : Below w.heap.size w w') : OwnPT w' g n M :=
  ⟨h.is.below hb, fun o => (hb.frozen (p := ⟨g, o, none⟩) h.is.lt).trans (h.free o)⟩
theorem cell_inj {x y x' y' : Nat} (hy : y < 5) (hy' : y' < 5) (h : 1 + x * 5 + y = 1 + x' * 5 + y') : x = x' ∧ y = y' := by omega
theorem OwnPT.set {w : World} {g n : Nat} {M : Nat → Nat → Int} (h : OwnPT w g n M) (hn : n ≤ 5) {x y : Nat} (hx : x < n) (hy : y < n) (z : Int) :
    OwnPT (w.setCell ⟨g, 1 + x * 5 + y, none⟩ (.int .i64 z)) g n (fun i j => if i = x ∧ j = y then z else M i j) := by
  have hset : (w.setCell ⟨g, 1 + x * 5 + y, none⟩ (.int .i64 z)).cell? ⟨g, 1 + x * 5 + y, none⟩ = some (.int .i64 z) := World.cell?_setCell_same _ _ _ (h.is.cell x y hx hy)
  refine ⟨⟨by simpa [World.setCell] using h.is.lt, ?_, fun i j hi hj => ?_⟩, fun o => by rw [World.frozen?_setCell]; exact h.free o⟩
  · rw [World.cell?_setCell_other _ _ _ _ (by intro e; injection e with _ e; omega)]; exact h.is.num
  · by_cases e : i = x ∧ j = y
    · obtain ⟨rfl, rfl⟩ := e
      rw [hset, if_pos ⟨rfl, rfl⟩]
    · rw [if_neg e, World.cell?_setCell_other _ _ _ _ (by
        intro e2
        injection e2 with _ e2
        exact e (cell_inj (by omega) (by omega) e2.symm))]
      exact h.is.cell i j hi hj
theorem OwnPT.congr {w : World} {g n : Nat} {M M' : Nat → Nat → Int} (h : OwnPT w g n M) (he : ∀ i j, i < n → j < n → M i j = M' i j) : OwnPT w g n M' :=
  ⟨⟨h.is.lt, h.is.num, fun i j hi hj => by rw [← he i j hi hj]; exact h.is.cell i j hi hj⟩, h.free⟩

/-- What add leaves: the rows before x, and the first y cells of row x, have the ballots, too. -/
def addF (zs : List Int) (m : Int) (F : Nat → Nat → Int) (x y : Nat) : Nat → Nat → Int := fun i j => if (i < x ∨ (i = x ∧ j < y)) ∧ prefB zs (i : Int) (j : Int) = true then F i j + m else F i j
theorem addF_start (zs : List Int) (m : Int) (F : Nat → Nat → Int) (i j : Nat) : addF zs m F 0 0 i j = F i j := by unfold addF; rw [if_neg (by rintro ⟨h, _⟩; omega)]
theorem addF_at (zs : List Int) (m : Int) (F : Nat → Nat → Int) (x y : Nat) : addF zs m F x y x y = F x y := by unfold addF; rw [if_neg (by rintro ⟨h, _⟩; omega)]
theorem addF_hit {zs : List Int} {m : Int} {F : Nat → Nat → Int} {x y : Nat} (h : prefB zs (x : Int) (y : Int) = true) (i j : Nat) : (if i = x ∧ j = y then F x y + m else addF zs m F x y i j) = addF zs m F x (y + 1) i j := by
  unfold addF
  by_cases e : i = x ∧ j = y
  · obtain ⟨rfl, rfl⟩ := e
    rw [if_pos ⟨rfl, rfl⟩, if_pos ⟨by omega, h⟩]
  · rw [if_neg e]
    by_cases e2 : (i < x ∨ (i = x ∧ j < y)) ∧ prefB zs (i : Int) (j : Int) = true
    · rw [if_pos e2, if_pos ⟨by omega, e2.2⟩]
    · rw [if_neg e2, if_neg (fun g => e2 ⟨by omega, g.2⟩)]
theorem addF_miss {zs : List Int} {m : Int} {F : Nat → Nat → Int} {x y : Nat} (h : prefB zs (x : Int) (y : Int) = false) (i j : Nat) : addF zs m F x y i j = addF zs m F x (y + 1) i j := by
  unfold addF
  by_cases e : i = x ∧ j = y
  · obtain ⟨rfl, rfl⟩ := e
    rw [if_neg (by rintro ⟨h, _⟩; omega), if_neg (by rintro ⟨_, h2⟩; rw [h] at h2; cases h2)]
  · by_cases e2 : (i < x ∨ (i = x ∧ j < y)) ∧ prefB zs (i : Int) (j : Int) = true
    · rw [if_pos e2, if_pos ⟨by omega, e2.2⟩]
    · rw [if_neg e2, if_neg (fun g => e2 ⟨by omega, g.2⟩)]
theorem addF_row (zs : List Int) (m : Int) (F : Nat → Nat → Int) (x n i j : Nat) (hj : j < n) : addF zs m F x n i j = addF zs m F (x + 1) 0 i j := by
  unfold addF
  by_cases e2 : (i < x ∨ (i = x ∧ j < n)) ∧ prefB zs (i : Int) (j : Int) = true
  · rw [if_pos e2, if_pos ⟨by omega, e2.2⟩]
  · rw [if_neg e2, if_neg (fun g => e2 ⟨by omega, g.2⟩)]
theorem addF_end {zs : List Int} {m : Int} {F : Nat → Nat → Int} {n i j : Nat} (hi : i < n) : addF zs m F n 0 i j = F i j + (if prefB zs (i : Int) (j : Int) = true then m else 0) := by
  unfold addF
  by_cases e : prefB zs (i : Int) (j : Int) = true
  · rw [if_pos ⟨.inl hi, e⟩, if_pos e]
  · rw [if_neg (fun g => e g.2), if_neg e, Int.add_zero]

set_option maxRecDepth 100000 in
set_option maxHeartbeats 4000000 in
/-- **add**. -/
theorem add_any (g n gb : Nat) (a : Option Addr) (c : Nat) (zs : List Int) (m : Int) (F : Nat → Nat → Int) (w : World) (hP : OwnPT w g n F) (hI : w.ownsRow gb 3 1 (.slice a zs.length c) zs.length (zs.map (Value.int .i64))) (hg : g < gb) (hz : zs.length ≤ 5) (hn : n ≤ 5) (hm : 0 ≤ m ∧ m ≤ 99) (hF : ∀ i j, 0 ≤ F i j ∧ F i j ≤ 1188) :
    Calls Try.prog 82 #[.pointer (some ⟨g, 0, none⟩), .slice a zs.length c, .int .i64 m] w fun e w' => e = .returned (.tuple #[]) ∧ OwnPT w' g n (addF zs m F n 0) ∧ Below g w w' := by
  have HP := Lib.hid hP
  have HI := Lib.hid hI
  have HF := Lib.hid hF
  have hnum := hP.is.num
  have HP0 : Hid (OwnPT w g n (addF zs m F 0 0)) := hP.congr (fun i j _ _ => (addF_start zs m F i j).symm)
  clear hP hI hF
  go_enter Try.func82, Try.ntmps82
  go_wp2
  clear hnum
  go_loopw [6, 7, 12, 19] (fun _ _ xv _ wr => ∃ x : Nat, x ≤ n ∧ xv = .int .i64 (x : Int) ∧ Hid (OwnPT wr g n (addF zs m F x 0)) ∧ Hid (wr.ownsRow gb 3 1 (.slice a zs.length c) zs.length (zs.map (Value.int .i64))) ∧ Below g w wr) (fun _ _ xv _ _ => n - (intOf xv).toNat)
  case atStart => exact ⟨0, Nat.zero_le _, rfl, HP0, HI, Below.refl _ _⟩
  case round =>
    clear HP0 HI HP
    obtain ⟨x, hx, rfl, hPx, hIx, hB⟩ := hrel
    by_cases hlt : x < n
    · have hnum := hPx.out.is.num
      go_wp2
      clear hnum
      go_loopw [7, 19] (fun _ yv wr => ∃ y : Nat, y ≤ n ∧ yv = .int .i64 (y : Int) ∧ Hid (OwnPT wr g n (addF zs m F x y)) ∧ Hid (wr.ownsRow gb 3 1 (.slice a zs.length c) zs.length (zs.map (Value.int .i64))) ∧ Below g w wr) (fun _ yv _ => n - (intOf yv).toNat)
      case atStart => exact ⟨0, Nat.zero_le _, rfl, hPx, hIx, hB⟩
      case round =>
        clear hPx hIx hB
        obtain ⟨y, hy, rfl, hPy, hIy, hB⟩ := hrel
        by_cases hlt2 : y < n
        · obtain ⟨u, hu⟩ : ∃ u, prefB zs (x : Int) (y : Int) = u := ⟨_, rfl⟩
          have HU := Lib.hid hu
          clear hu
          go_wp2_with fail
          refine (implPrefers_any _ _ _ zs _ _ _ (IsInts.of_owned hIy.out (by omega))).mono ?_
          rintro e w5 ⟨he, hb5⟩
          rw [HU.out] at he
          subst he
          have P5 := Lib.hid (hPy.out.below hb5)
          have I5 := Lib.hid (owns_under hIy.out hb5)
          have B5 : Below g w w5 := hB.trans (hb5.mono (by have := hPy.out.is.lt; omega))
          clear hPy hIy hB hb5
          cases u
          · go_wp2
            go_roundw
            case rel => exact ⟨y + 1, by omega, by go_num, P5.out.congr (fun i j _ _ => addF_miss HU.out i j), I5, B5⟩
            case measure => simp [intOf]; omega
          · have cxy := P5.out.is.cell x y hlt hlt2
            rw [addF_at] at cxy
            have fxy := P5.out.free (1 + x * 5 + y)
            obtain ⟨z, hz0⟩ : ∃ z, F x y = z := ⟨_, rfl⟩
            have hzb : 0 ≤ z ∧ z ≤ 1188 := by rw [← hz0]; exact HF.out x y
            rw [hz0] at cxy
            have P6 := P5.out.set hn hlt hlt2 (z + m)
            have P7 : Hid (OwnPT (w5.drew.setCell ⟨g, 1 + x * 5 + y, none⟩ (.int .i64 (z + m))) g n (addF zs m F x (y + 1))) :=
              (P6.congr (fun i j _ _ => by rw [← hz0]; exact addF_hit HU.out i j)).below (Below.refl _ _).drew
            have B7 : Below g w (w5.drew.setCell ⟨g, 1 + x * 5 + y, none⟩ (.int .i64 (z + m))) := (B5.setCell (p := ⟨g, 1 + x * 5 + y, none⟩) (Nat.le_refl _) _).drew
            have I7 : Hid ((w5.drew.setCell ⟨g, 1 + x * 5 + y, none⟩ (.int .i64 (z + m))).ownsRow gb 3 1 (.slice a zs.length c) zs.length (zs.map (Value.int .i64))) := by
              refine World.ownsRow.kept I5.out (row := some g) (w' := w5.drew.setCell ⟨g, 1 + x * 5 + y, none⟩ (.int .i64 (z + m))) ⟨rfl, rfl, rfl, by simp [World.setCell], fun k hk hne => Below.heap_setCell _ _ _ _ (by show k ≠ g; intro e; exact hne (by rw [e]))⟩ ?_
              cases hbl : (Value.slice a zs.length c).ownBlock with
              | none => exact .inl rfl
              | some j => right; intro e; injection e with e; have := (I5.out.lt j hbl).1; omega
            have hxi : (x : Int) < 5 := by omega
            have hyi : (y : Int) < 5 := by omega
            have cxyd : w5.drew.cell? ⟨g, 1 + x * 5 + y, none⟩ = some (.int .i64 z) := cxy
            have fxyd : w5.drew.frozen? ⟨g, 1 + x * 5 + y, none⟩ = false := fxy
            clear P6 P5 I5 B5 hz0 fxy
            go_wp2_with fail
            refine region_quiet_tail 14 (by kernel_rfl) (by kernel_rfl) ?_
            simp only [List.take_succ_cons, List.take_zero, List.drop_succ_cons, List.drop_zero]
            repeat (go_big_quiet_step (fail))
            refine wpQuiet_nil ?_
            generalize w5.drew = w6 at P7 B7 I7 cxyd fxyd ⊢
            go_wp2
            go_roundw
            case rel => exact ⟨y + 1, by omega, by go_num, P7, I7, B7⟩
            case measure => simp [intOf]; omega
        · obtain rfl : y = n := by omega
          go_wp2
          go_roundw
          case rel => exact ⟨x + 1, by omega, by go_num, hPy.out.congr (fun i j _ hj => addF_row zs m F x y i j hj), hIy, hB⟩
          case measure => simp [intOf]; omega
    · obtain rfl : x = n := by omega
      go_wp2
      go_end0
      exact ⟨rfl, hPx.out, hB⟩

end Go.Proofs.Ytaaamidkfhabnaa

namespace Go.Proofs.Ytaaamidkfhabnaa
open Go.RowKit

attribute [local go_sem] Oper.semAt_some

/-- A new table holds nothing. -/
theorem new_table (w : World) (n : Nat) (hn : n ≤ 5) (t : TypeId) : OwnPT (w.alloc (.cells #[.int .i64 (n : Int), .int .i64 0, .int .i64 0, .int .i64 0, .int .i64 0, .int .i64 0, .int .i64 0, .int .i64 0, .int .i64 0, .int .i64 0, .int .i64 0, .int .i64 0, .int .i64 0, .int .i64 0, .int .i64 0, .int .i64 0, .int .i64 0, .int .i64 0, .int .i64 0, .int .i64 0, .int .i64 0, .int .i64 0, .int .i64 0, .int .i64 0, .int .i64 0, .int .i64 0] t)) w.heap.size n (fun _ _ => 0) := by
  have hc : ∀ d, (w.alloc (.cells #[.int .i64 (n : Int), .int .i64 0, .int .i64 0, .int .i64 0, .int .i64 0, .int .i64 0, .int .i64 0, .int .i64 0, .int .i64 0, .int .i64 0, .int .i64 0, .int .i64 0, .int .i64 0, .int .i64 0, .int .i64 0, .int .i64 0, .int .i64 0, .int .i64 0, .int .i64 0, .int .i64 0, .int .i64 0, .int .i64 0, .int .i64 0, .int .i64 0, .int .i64 0, .int .i64 0] t)).cell? ⟨w.heap.size, d, none⟩ = _ := fun d => World.cell?_alloc_mark w _ t (0, 0) d
  refine ⟨⟨by simp, (hc 0).trans rfl, fun x y hx hy => (hc _).trans ?_⟩, fun o => ?_⟩
  · have h1 : x = 0 ∨ x = 1 ∨ x = 2 ∨ x = 3 ∨ x = 4 := by omega
    have h2 : y = 0 ∨ y = 1 ∨ y = 2 ∨ y = 3 ∨ y = 4 := by omega
    rcases h1 with rfl | rfl | rfl | rfl | rfl <;> rcases h2 with rfl | rfl | rfl | rfl | rfl <;> rfl
  · have hb := World.alloc_heap_new w (.cells #[.int .i64 (n : Int), .int .i64 0, .int .i64 0, .int .i64 0, .int .i64 0, .int .i64 0, .int .i64 0, .int .i64 0, .int .i64 0, .int .i64 0, .int .i64 0, .int .i64 0, .int .i64 0, .int .i64 0, .int .i64 0, .int .i64 0, .int .i64 0, .int .i64 0, .int .i64 0, .int .i64 0, .int .i64 0, .int .i64 0, .int .i64 0, .int .i64 0, .int .i64 0, .int .i64 0] t)
    simp only [World.frozen?, hb]
    simp

/-- What newPairTable returns. -/
def NewT (w : World) (ok : Bool) (n : Nat) (M : Nat → Nat → Int) (e : Ending) (w' : World) : Prop :=
  (ok = false ∧ e = .returned (.tuple #[.pointer none, .bool false]) ∧ Below w.heap.size w w') ∨
  (ok = true ∧ ∃ g, e = .returned (.tuple #[.pointer (some ⟨g, 0, none⟩), .bool true]) ∧ IsPT w' g n M ∧ Below w.heap.size w w')

set_option maxRecDepth 100000 in
set_option maxHeartbeats 4000000 in
/-- **newPairTable**. -/
theorem newPairTable_as (a : Option Addr) (len cap : Nat) (ps : List Pl) (n : Int) (v : Bool) (w : World) (h : IsPiles w a len cap ps) (hs : Small ps) (hv : fitsB ps n = v) :
    Calls Try.prog 45 #[.slice a len cap, .int .i64 n] w (NewT w v n.toNat (pairF ps)) := by
  have HI := Lib.hid h
  have HS := Lib.hid hs
  have H1 := Lib.hid h.1
  clear h hs
  obtain ⟨G0, hG⟩ : ∃ G, w.heap.size = G := ⟨_, rfl⟩
  cases v
  · have HV := Lib.hid hv; clear hv
    go_enter Try.func45, Try.ntmps45
    go_wp2_with fail
    refine (implFits_as _ len cap ps n false _ HI.out HS.out HV.out).mono ?_
    rintro e1 w1 ⟨rfl, hb1⟩
    go_wp2
    go_ret2
    exact .inl ⟨rfl, rfl, hb1⟩
  · obtain ⟨hp, hn1, hn5, -⟩ := fits_parts hv
    obtain ⟨N, rfl⟩ : ∃ N : Nat, n = (N : Int) := ⟨n.toNat, by omega⟩
    have hl12 : len ≤ 12 := by have := (pilesB_pos hp).2.2.2.2; rw [H1.out] at this; exact this
    have HV := Lib.hid hv
    have HP := Lib.hid hp
    clear hv hp
    have hN1 : 1 ≤ N := by omega
    have hN5 : N ≤ 5 := by omega
    go_enter Try.func45, Try.ntmps45
    go_wp2_with fail
    refine (implFits_as _ len cap ps (N : Int) true _ HI.out HS.out HV.out).mono ?_
    rintro e1 w1 ⟨rfl, hb1⟩
    have B1 := Lib.hid (hG ▸ hb1)
    obtain ⟨g, hg⟩ : ∃ g, w1.heap.size = g := ⟨_, rfl⟩
    have hGg : G0 ≤ g := by have := hb1.size; rw [hG, hg] at this; exact this
    have hT := new_table w1 N hN5 90
    obtain ⟨w2, hw2⟩ : ∃ w2, w1.alloc (.cells #[.int .i64 (N : Int), .int .i64 0, .int .i64 0, .int .i64 0, .int .i64 0, .int .i64 0, .int .i64 0, .int .i64 0, .int .i64 0, .int .i64 0, .int .i64 0, .int .i64 0, .int .i64 0, .int .i64 0, .int .i64 0, .int .i64 0, .int .i64 0, .int .i64 0, .int .i64 0, .int .i64 0, .int .i64 0, .int .i64 0, .int .i64 0, .int .i64 0, .int .i64 0, .int .i64 0] 90) = w2 := ⟨_, rfl⟩
    have hB2 : Below g w1 w2 := hw2 ▸ (Below.refl g w1).alloc (by omega) _
    rw [hw2, hg] at hT
    have T2 : Hid (OwnPT w2 g N (pairF (ps.take 0))) := hT.congr (fun i j _ _ => by rw [List.take_zero]; rfl)
    clear hT hb1
    go_wp2
    go_loopw [8, 9, 10, 20] (fun _ _ _ iv wr => ∃ i : Nat, i ≤ len ∧ iv = .int .i64 (i : Int) ∧ Hid (OwnPT wr g N (pairF (ps.take i))) ∧ Below g w1 wr) (fun _ _ _ iv _ => len - (intOf iv).toNat)
    case atStart => exact ⟨0, Nat.zero_le _, rfl, T2, hB2⟩
    case round =>
      clear T2 hB2 hw2
      obtain ⟨i, hil, rfl, hT, hB⟩ := hrel
      by_cases hlt : i < len
      · have hBw : Below w.heap.size w wr := hG.symm ▸ B1.out.trans (hB.mono hGg)
        obtain ⟨b, off, rfl, hb, c0, c1⟩ := (HI.out.below hBw).at_text hlt
        obtain ⟨t, ht⟩ : ∃ t, tAt ps i = t := ⟨_, rfl⟩
        obtain ⟨m, hm⟩ : ∃ m, mAt ps i = m := ⟨_, rfl⟩
        obtain ⟨pl, hpl⟩ : ∃ pl, parseL t = pl := ⟨_, rfl⟩
        have hst : t.size ≤ 1048600 := by rw [← ht]; exact HS.out i
        have hl5 : pl.length ≤ 5 := by rw [← hpl]; exact parseL_short t
        have hm99 : 0 ≤ m ∧ m ≤ 99 := by rw [← hm]; exact mAt_valid HP.out i
        have HOK : Hid (validB (nums t) 5 = true) := by
          have := (pilesB_pos HP.out).2.2.2.1 _ (pile_mem (ps := ps) (k := i) (by rw [H1.out]; exact hlt))
          unfold Hid; rw [← ht]; exact this
        rw [ht] at c0
        rw [hm] at c1
        have HT0 := Lib.hid ht
        have HM0 := Lib.hid hm
        have HPL := Lib.hid hpl
        have hglt := hT.out.is.lt
        have hips : Hid (i < ps.length) := by unfold Hid; rw [H1.out]; exact hlt
        clear ht hpl hm hBw
        go_wp2_with fail
        refine (implParse_as t pl true _ hst HPL.out HOK.out).mono ?_
        rintro e w4 ⟨a4, c4, rfl, ho4, hb4⟩
        have hBx : Below wr.heap.size wr w4 := ((Below.refl _ _).alloc (Nat.le_refl _) _).trans (hb4.mono (by simp))
        have T4 := Lib.hid (hT.out.below hBx)
        have cm : w4.cell? ⟨wr.heap.size, 1, none⟩ = some (.int .i64 m) := (hb4.cell (p := ⟨wr.heap.size, 1, none⟩) (by simp)).trans ((World.cell?_alloc_mark wr _ _ (0, 0) 1).trans rfl)
        obtain ⟨gb, hgb, hog⟩ : ∃ gb, g < gb ∧ w4.ownsRow gb 3 1 (.slice a4 pl.length c4) pl.length (pl.map (Value.int .i64)) := ⟨_, by simp; omega, ho4⟩
        have HOG := Lib.hid hog
        have B4 : Below g w1 w4 := hB.trans (hBx.mono (by omega))
        clear ho4 hb4 hog hBx hT hB c0 c1
        go_wp2_with fail
        refine (add_any g N gb _ _ pl m (pairF (ps.take i)) _ T4.out HOG.out hgb hl5 hN5 hm99 (fun x y => pairF_most HP.out i x y)).mono ?_
        rintro e w5 ⟨rfl, hT5, hb5⟩
        have T6 : Hid (OwnPT w5 g N (pairF (ps.take (i + 1)))) := hT5.congr (fun x y hx _ => by rw [addF_end hx, pairF_next hips.out, HT0.out, HPL.out, HM0.out])
        have B6 : Below g w1 w5 := B4.trans hb5
        clear hT5 hb5 T4 cm
        go_wp2
        go_roundw
        case rel => exact ⟨i + 1, by omega, by go_num, T6, B6⟩
        case measure => simp [intOf]; omega
      · obtain rfl : i = len := by omega
        have hT9 : Hid (IsPT wr g N (pairF ps)) := by
          have := hT.out.is; rw [List.take_of_length_le (by rw [H1.out]; exact Nat.le_refl _)] at this; exact this
        go_wp2
        go_ret2
        exact .inr ⟨rfl, g, rfl, by rw [Int.toNat_natCast]; exact hT9.out, hG.symm ▸ B1.out.trans (hB.mono hGg)⟩

end Go.Proofs.Ytaaamidkfhabnaa
