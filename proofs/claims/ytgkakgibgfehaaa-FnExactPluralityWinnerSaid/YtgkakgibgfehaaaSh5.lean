/-
  Piles, as lists: where ballots are put; two candidates exchanged. Of no memory.
  What a slice of ints that the call owns says to a reader; lists that are filled, or compared. No condition but what each theorem says.
  What a slice of piles holds: two cells a pile, its text and its number. Of any type of two cells; no function of the seat.
  The iterators slices.Values at ints, letterCandidates and ballotCandidates: each yields its list in order, to every loop body that keeps what lay below. No condition but what each theorem says.
  impl.BallotValid answers as the model: for every ballot of at most 1048600 ints, in whatever memory; it writes into no memory that was there.
  l1Has: whether a list has a number. No condition but what the theorem says.
  spec.BallotValid: what it answers at every list of at most 1048600 ints and every number; it writes nothing. No condition but what each theorem says.
  spec.BallotText: the text of a ballot; it writes into no memory that was there. No condition but what each theorem says.
  What the program knows of the type byte; a candidate's number.
  spec.BallotParse: the ballot of a text, in memory of the call's own; texts and ballots lead to each other. No condition but what each theorem says.
  spec.BallotParse and impl.BallotParse answer alike: for every text of at most 1048576 bytes; neither writes into memory that was there, and what they return is memory of their own.
-/
import Derived.Test.YtgkakgibgfehaaaSh4
import Derived.Test.YtgkakgibgfehaaaSh3
import Derived.Laws.OwnMore
import Derived.OwnWalk
import Derived.RangeFuncBox
import Derived.RangeFuncLeaves
import Derived.Shelf.Abstract
import Derived.OwnWalkIn
import Derived.TacticsInMore
import Derived.LoopNIn
import Derived.LoopIn
import Derived.Test.YtgkakgibgfehaaaValidP
import Derived.Laws.BytesArg
import Derived.Laws.Concat
import Derived.Maps.AppendAt
import Derived.Deep.Onto
namespace Go.Proofs.Ytgkakgibgfehaaa

theorem tAt_cons (p : Pl) (ps : List Pl) (i : Nat) : tAt (p :: ps) (i + 1) = tAt ps i := by simp [tAt]
theorem mAt_cons (p : Pl) (ps : List Pl) (i : Nat) : mAt (p :: ps) (i + 1) = mAt ps i := by simp [mAt]
/-- Ballots are put to the pile with their text. -/
theorem put_same {t : ByteArray} {m : Int} : ∀ {ps : List Pl} {k : Nat}, (∀ j, j < k → tl (tAt ps j) t = true) → k < ps.length → tAt ps k = t → putL ps t m = ps.set k (t, mAt ps k + m)
  | [], k, _, h, _ => by simp at h
  | p :: ps, 0, _, _, he => by
    have e : p.1 = t := by simpa [tAt] using he
    have hn : ¬ tl p.1 t = true := by rw [e, tl_irrefl]; simp
    rw [putL, if_neg hn, if_pos e]
    simp [mAt]
  | p :: ps, k + 1, h, hk, he => by
    have h0 : tl p.1 t = true := by simpa [tAt] using h 0 (by omega)
    rw [tAt_cons] at he
    have ih := put_same (m := m) (ps := ps) (k := k) (fun j hj => by have := h (j + 1) (by omega); rwa [tAt_cons] at this) (by simpa using hk) he
    rw [putL, if_pos h0, ih, mAt_cons]
    rfl
/-- Ballots are put in a new pile. -/
theorem put_new {t : ByteArray} {m : Int} : ∀ {ps : List Pl} {k : Nat}, (∀ j, j < k → tl (tAt ps j) t = true) → k ≤ ps.length → (k < ps.length → tl (tAt ps k) t = false ∧ tAt ps k ≠ t) → putL ps t m = ps.take k ++ (t, m) :: ps.drop k
  | [], k, _, hk, _ => by
    obtain rfl : k = 0 := by simpa using hk
    rfl
  | p :: ps, 0, _, _, h => by
    obtain ⟨h1, h2⟩ := h (by simp)
    have e1 : ¬ tl p.1 t = true := by simpa [tAt] using h1
    have e2 : ¬ p.1 = t := by simpa [tAt] using h2
    rw [putL, if_neg e1, if_neg e2]; rfl
  | p :: ps, k + 1, h, hk, hs => by
    have h0 : tl p.1 t = true := by simpa [tAt] using h 0 (by omega)
    have ih := put_new (m := m) (ps := ps) (k := k) (fun j hj => by have := h (j + 1) (by omega); rwa [tAt_cons] at this) (by simpa using hk)
      (fun hl => by have := hs (by simpa using hl); rwa [tAt_cons] at this)
    rw [putL, if_pos h0, ih]; rfl

/-- What PilesAdd returns. -/
def addB (ps : List Pl) (t : ByteArray) (m : Int) : Bool := pilesB ps && (pileB t m && pilesB (putL ps t m))
def addL (ps : List Pl) (t : ByteArray) (m : Int) : List Pl := if addB ps t m = true then putL ps t m else []
/-- What PilesTotal returns. -/
def totalL (ps : List Pl) : Int := if pilesB ps = true then sumL ps else -1
theorem addB_iff (ps : List Pl) (t : ByteArray) (m : Int) : addB ps t m = true ↔ pilesB ps = true ∧ pileB t m = true ∧ pilesB (putL ps t m) = true := by simp [addB]
end Go.Proofs.Ytgkakgibgfehaaa

namespace Go.Proofs.Ytgkakgibgfehaaa
open Go.RowKit

theorem int_info : (Tq.prog.info? 3).map (fun i => (i.zero, i.size, i.bytes)) = some (some (.int .i64 0), 1, 8) := by kernel_rfl

/-- What a row that is owned says to a reader. -/
theorem IsInts.of_owns {w : World} {base g len cap : Nat} {zs : List Int} (h : w.ownsRow base 3 1 (.slice (some ⟨g, 0, none⟩) len cap) len (zs.map (Value.int .i64))) (hl : len ≤ 1048600) : IsInts w (some ⟨g, 0, none⟩) len cap zs := by
  have hlen : zs.length = len := by have := h.1; simpa using this
  have hcap : len ≤ cap := by
    rcases h.2 with ⟨e, _⟩ | ⟨_, c, _, e, _, _, hc, _⟩
    · cases e
    · injection e with _ _ e3; omega
  refine ⟨hlen, hcap, hl, fun hp => ⟨g, 0, rfl, ?_, fun j hj => ?_⟩⟩
  · exact (h.lt g rfl).2
  · rw [Nat.zero_add, h.cellAt j (by omega)]
    simp [show j < zs.length from by omega]

theorem owns_slice {w : World} {base : Nat} {e : TypeId} {size n : Nat} {v : Value} {xs : List Value} (h : w.ownsRow base e size v n xs) : ∃ a cap, v = .slice a n cap := by
  rcases h.2 with ⟨rfl, rfl⟩ | ⟨g, c, _, rfl, _⟩
  · exact ⟨none, 0, rfl⟩
  · exact ⟨_, c, rfl⟩
theorem IsInts.of_owned {w : World} {base len cap : Nat} {a : Option Addr} {zs : List Int} (h : w.ownsRow base 3 1 (.slice a len cap) len (zs.map (Value.int .i64))) (hl : len ≤ 1048600) : IsInts w a len cap zs := by
  rcases h.2 with ⟨e, e0⟩ | ⟨g, c, _, e, _⟩
  · subst e0
    have hz : zs = [] := by have := h.1; simpa using this
    subst hz
    exact ⟨rfl, Nat.zero_le _, hl, fun hp => by omega⟩
  · injection e with e1 e2 e3
    subst e1
    exact IsInts.of_owns h hl

/-- Two lists of ints are equal. -/
def eqB (zs ys : List Int) : Bool := decide (zs = ys)
theorem eqB_self (zs : List Int) : eqB zs zs = true := by simp [eqB]
theorem take_step (zs ys : List Int) (k : Nat) (hz : k < zs.length) (hy : k < ys.length) (h : zs.take k = ys.take k) (he : zs[k]?.getD 0 = ys[k]?.getD 0) : zs.take (k + 1) = ys.take (k + 1) := by
  rw [List.take_succ_eq_append_getElem hz, List.take_succ_eq_append_getElem hy, h]
  simp [hz, hy] at he
  rw [he]
theorem take_part (zs ys : List Int) (k : Nat) (he : (zs[k]?.getD 0 == ys[k]?.getD 0) = false) : eqB zs ys = false := by
  simp only [eqB, decide_eq_false_iff_not]
  rintro rfl
  simp at he

end Go.Proofs.Ytgkakgibgfehaaa

namespace Go.Proofs.Ytgkakgibgfehaaa
open Go.RowKit

/-- The cells of piles. -/
def cellsP : List Pl → List Value
  | [] => []
  | p :: ps => .string p.1 :: .int .i64 p.2 :: cellsP ps
theorem cellsP_length : ∀ ps : List Pl, (cellsP ps).length = ps.length * 2
  | [] => rfl
  | p :: ps => by rw [cellsP, List.length_cons, List.length_cons, cellsP_length ps, List.length_cons]; omega
theorem cellsP_app (a b : List Pl) : cellsP (a ++ b) = cellsP a ++ cellsP b := by
  induction a with
  | nil => rfl
  | cons p a ih => rw [List.cons_append, cellsP, cellsP, ih]; rfl
theorem cellsP_text : ∀ (ps : List Pl) (j : Nat), j < ps.length → (cellsP ps)[j * 2]? = some (.string (tAt ps j))
  | [], j, h => by simp at h
  | p :: ps, 0, _ => rfl
  | p :: ps, j + 1, h => by
    rw [tAt_cons, cellsP, show (j + 1) * 2 = j * 2 + 1 + 1 by omega, List.getElem?_cons_succ, List.getElem?_cons_succ]
    exact cellsP_text ps j (by simpa using h)
theorem cellsP_many : ∀ (ps : List Pl) (j : Nat), j < ps.length → (cellsP ps)[j * 2 + 1]? = some (.int .i64 (mAt ps j))
  | [], j, h => by simp at h
  | p :: ps, 0, _ => rfl
  | p :: ps, j + 1, h => by
    rw [mAt_cons, cellsP, show (j + 1) * 2 + 1 = j * 2 + 1 + 1 + 1 by omega, List.getElem?_cons_succ, List.getElem?_cons_succ]
    exact cellsP_many ps j (by simpa using h)
theorem cellsP_set : ∀ (ps : List Pl) (k : Nat) (m : Int), k < ps.length → (cellsP ps).set (k * 2 + 1) (.int .i64 m) = cellsP (ps.set k (tAt ps k, m))
  | [], k, m, h => by simp at h
  | p :: ps, 0, m, _ => rfl
  | p :: ps, k + 1, m, h => by
    rw [tAt_cons, cellsP, show (k + 1) * 2 + 1 = k * 2 + 1 + 1 + 1 by omega, List.set_cons_succ, List.set_cons_succ, cellsP_set ps k m (by simpa using h), List.set_cons_succ, cellsP]

/-- The slice value reads as the piles ps. -/
def IsPiles (w : World) (a : Option Addr) (len cap : Nat) (ps : List Pl) : Prop :=
  ps.length = len ∧ len ≤ cap ∧ len ≤ 1048600 ∧ (0 < len → ∃ b off, a = some ⟨b, off, none⟩ ∧ b < w.heap.size ∧
    ∀ j, j < len → w.cell? ⟨b, off + j * 2, none⟩ = some (.string (tAt ps j)) ∧ w.cell? ⟨b, off + j * 2 + 1, none⟩ = some (.int .i64 (mAt ps j)))
theorem IsPiles.below {w w' : World} {a : Option Addr} {len cap : Nat} {ps : List Pl} (h : IsPiles w a len cap ps) (hb : Below w.heap.size w w') : IsPiles w' a len cap ps := by
  obtain ⟨h1, h2, h3, h4⟩ := h
  refine ⟨h1, h2, h3, fun hl => ?_⟩
  obtain ⟨b, off, e, hlt, hc⟩ := h4 hl
  exact ⟨b, off, e, Nat.lt_of_lt_of_le hlt hb.size, fun j hj => ⟨(hb.cell (p := ⟨b, off + j * 2, none⟩) hlt).trans (hc j hj).1, (hb.cell (p := ⟨b, off + j * 2 + 1, none⟩) hlt).trans (hc j hj).2⟩⟩
theorem tAt_take {ps : List Pl} {k j : Nat} (h : j < k) : tAt (ps.take k) j = tAt ps j := by unfold tAt; rw [List.getElem?_take_of_lt h]
theorem mAt_take {ps : List Pl} {k j : Nat} (h : j < k) : mAt (ps.take k) j = mAt ps j := by unfold mAt; rw [List.getElem?_take_of_lt h]
theorem tAt_drop (ps : List Pl) (k j : Nat) : tAt (ps.drop k) j = tAt ps (k + j) := by unfold tAt; rw [List.getElem?_drop]
theorem mAt_drop (ps : List Pl) (k j : Nat) : mAt (ps.drop k) j = mAt ps (k + j) := by unfold mAt; rw [List.getElem?_drop]
theorem IsPiles.take {w : World} {a : Option Addr} {len cap : Nat} {ps : List Pl} (h : IsPiles w a len cap ps) {k : Nat} (hk : k ≤ len) : IsPiles w a k cap (ps.take k) := by
  obtain ⟨h1, h2, h3, h4⟩ := h
  refine ⟨by simp; omega, by omega, by omega, fun hl => ?_⟩
  obtain ⟨b, off, e, hlt, hc⟩ := h4 (by omega)
  exact ⟨b, off, e, hlt, fun j hj => by rw [tAt_take hj, mAt_take hj]; exact hc j (by omega)⟩
theorem IsPiles.drop {w : World} {b off len cap cap' : Nat} {ps : List Pl} (h : IsPiles w (some ⟨b, off, none⟩) len cap ps) {k : Nat} (hk : k ≤ len) (hc' : len - k ≤ cap') : IsPiles w (some ⟨b, off + k * 2, none⟩) (len - k) cap' (ps.drop k) := by
  obtain ⟨h1, h2, h3, h4⟩ := h
  refine ⟨by rw [List.length_drop, h1], hc', Nat.le_trans (Nat.sub_le _ _) h3, fun hl => ?_⟩
  obtain ⟨b', off', e, hlt, hc⟩ := h4 (by omega)
  injection e with e
  injection e with e1 e2 e3
  subst e1; subst e2
  refine ⟨b, off + k * 2, rfl, hlt, fun j hj => ?_⟩
  have := hc (k + j) (by omega)
  rw [tAt_drop, mAt_drop, show off + k * 2 + j * 2 = off + (k + j) * 2 by omega]
  exact this
theorem IsPiles.empty (w : World) (a : Option Addr) (cap : Nat) : IsPiles w a 0 cap [] := ⟨rfl, Nat.zero_le _, by omega, fun h => by omega⟩
/-- What a row of piles that is owned says to a reader. -/
theorem IsPiles.of_owned {w : World} {base len cap : Nat} {e : TypeId} {a : Option Addr} {ps : List Pl} (h : w.ownsRow base e 2 (.slice a len cap) len (cellsP ps)) (hl : len ≤ 1048600) : IsPiles w a len cap ps := by
  have hlen : ps.length = len := by have h1 := h.1; rw [cellsP_length] at h1; omega
  rcases h.2 with ⟨e1, e0⟩ | ⟨g, c, cur, e1, hb, hg, hcap, hmax, hcur, htake⟩
  · subst e0
    have hz : ps = [] := List.length_eq_zero_iff.1 hlen
    subst hz
    exact ⟨rfl, Nat.zero_le _, hl, fun hp => by omega⟩
  · injection e1 with e1 e2 e3
    subst e1
    subst e3
    refine ⟨hlen, hcap, hl, fun hp => ⟨g, 0, rfl, (h.lt g rfl).2, fun j hj => ⟨?_, ?_⟩⟩⟩
    · rw [Nat.zero_add, h.cellAt (j * 2) (by omega)]
      exact cellsP_text ps j (by omega)
    · rw [Nat.zero_add]
      rw [h.cellAt (j * 2 + 1) (by omega)]
      exact cellsP_many ps j (by omega)
/-- The cells of a slice of piles, read together. -/
theorem IsPiles.cells {w : World} {b off len cap : Nat} {ps : List Pl} (h : IsPiles w (some ⟨b, off, none⟩) len cap ps) (j : Nat) (hj : j < len * 2) : w.cell? ⟨b, off + j, none⟩ = (cellsP ps)[j]? := by
  obtain ⟨h1, h2, h3, h4⟩ := h
  obtain ⟨b', off', e, hlt, hc⟩ := h4 (by omega)
  injection e with e
  injection e with e1 e2 e3
  subst e1; subst e2
  have hq := hc (j / 2) (by omega)
  rcases Nat.mod_two_eq_zero_or_one j with g | g
  · rw [show j = j / 2 * 2 by omega]
    rw [cellsP_text ps (j / 2) (by omega)]
    exact hq.1
  · rw [show j = j / 2 * 2 + 1 by omega]
    rw [cellsP_many ps (j / 2) (by omega)]
    exact hq.2

end Go.Proofs.Ytgkakgibgfehaaa

namespace Go.Proofs.Ytgkakgibgfehaaa
open Go.RowKit Go.Shelf

attribute [local go_sem] Oper.semAt_some

/-- What has come when k rounds are over. -/
def upto {α : Type} (f : Nat → α) (k : Nat) : List α := (List.range k).map f
theorem upto_succ {α : Type} (f : Nat → α) (k : Nat) : upto f (k + 1) = upto f k ++ [f k] := by simp [upto, List.range_succ]
theorem upto_length {α : Type} (f : Nat → α) (k : Nat) : (upto f k).length = k := by simp [upto]
theorem upto_all (zs : List Int) : upto (fun j => zs[j]?.getD 0) zs.length = zs := by
  apply List.ext_getElem
  · simp [upto]
  · intro i h1 h2
    simp [upto, h2]
theorem upto_take (zs : List Int) {k : Nat} (hk : k ≤ zs.length) : upto (fun j => zs[j]?.getD 0) k = zs.take k := by
  apply List.ext_getElem
  · simp [upto, hk]
  · intro i h1 h2
    have : i < zs.length := by simp [upto] at h1; omega
    simp [upto, this]

set_option maxRecDepth 100000 in
set_option maxHeartbeats 2000000 in
/-- slices.Values's closure, at a slice with elements. -/
theorem values1_in (F : Fence) (n : Nat) (hF : F.fn 140) (hro : F.round = none) (hn : 1 ≤ n) (l Bs n₀ b off len cap : Nat) {α : Type} (f : α → Int) (x : Nat → α) (hreach : len ≤ 1048600) (hb : b < n₀) (J Jx : List α → World → Prop)
    (hY : ∀ pre x W, J pre W → pre.length < len → YieldAt F (n - 1) Tq.prog l #[.int .i64 (f x)] W fun e W' =>
      (e = .returned (.bool true) ∧ J (pre ++ [x]) W' ∧ Below n₀ W W') ∨ (e = .returned (.bool false) ∧ Jx (pre ++ [x]) W'))
    (W : World) (hBs : W.cell? ⟨Bs, 0, none⟩ = some (.slice (some ⟨b, off, none⟩) len cap)) (hc : ∀ j, j < len → W.cell? ⟨b, off + j, none⟩ = some (.int .i64 (f (x j)))) (h0 : J [] W) :
    CallsIn F n Tq.prog 140 #[.func (.yield l) #[] #[], .pointer (some ⟨Bs, 0, none⟩)] W fun e W' => (∃ v, e = .returned v) ∧
      ((∃ ys, ys = upto x len ∧ J ys W') ∨ (∃ pre, (∃ k, k ≤ len ∧ pre = upto x k) ∧ Jx pre W')) := by
  refine callsIn_of_wp Tq.func140 rfl hF ?_ hro
  simp only [Tq.ntmps140, List.size_toArray, List.length_cons, List.length_nil, Nat.reduceAdd, Nat.reduceSub, Array.replicate_succ, Array.replicate_zero, List.push_toArray, List.append_toArray, List.nil_append, List.cons_append]
  gi_wp2
  gi_loopw [7] (fun i wr => ∃ k : Nat, k ≤ len ∧ i = .int .i64 k ∧ J (upto x k) wr ∧ Below n₀ W wr)
    (fun i _ => len - (intOf i).toNat)
  case atStart => exact ⟨0, Nat.zero_le _, rfl, h0, Below.refl _ _⟩
  case round =>
    obtain ⟨k, hk, rfl, hJs, hnx⟩ := hrel
    have hcx : k < len → wr.cell? ⟨b, off + k, none⟩ = some (.int .i64 (f (x k))) := fun h => (hnx.cell (p := ⟨b, off + k, none⟩) hb).trans (hc k h)
    by_cases hlt : k < len
    · obtain ⟨fn, tmps, assign, body, hy, hR⟩ := hY _ (x k) wr hJs (by rw [upto_length]; exact hlt)
      have hcx' := hcx hlt
      gi_wp2
      refine hR.mono ?_
      rintro e W3 (⟨rfl, hJ3, hk3⟩ | ⟨rfl, hJx3⟩)
      · gi_wp2
        go_roundw
        case rel => exact ⟨k + 1, by omega, by simp, by rw [upto_succ]; exact hJ3, hnx.trans hk3⟩
        case measure => simp [intOf]; omega
      · gi_wp2
        refine bodyPost_ret (results_none rfl _ _ _) rfl ?_
        exact ⟨⟨_, rfl⟩, .inr ⟨_, ⟨k + 1, by omega, (upto_succ _ _).symm⟩, hJx3⟩⟩
    · obtain rfl : k = len := by omega
      gi_wp2
      go_end0
      exact ⟨⟨_, rfl⟩, .inl ⟨_, rfl, hJs⟩⟩

set_option maxRecDepth 100000 in
set_option maxHeartbeats 1000000 in
/-- .. at a slice without elements: no round. -/
theorem values1_nil_in (F : Fence) (n : Nat) (hF : F.fn 140) (hro : F.round = none) (l Bs cap : Nat) (a : Option Addr) {α : Type} (J : List α → World → Prop) (W : World) (hBs : W.cell? ⟨Bs, 0, none⟩ = some (.slice a 0 cap)) (h0 : J [] W) :
    CallsIn F n Tq.prog 140 #[.func (.yield l) #[] #[], .pointer (some ⟨Bs, 0, none⟩)] W fun e W' => (∃ v, e = .returned v) ∧ J [] W' := by
  refine callsIn_of_wp Tq.func140 rfl hF ?_ hro
  simp only [Tq.ntmps140, List.size_toArray, List.length_cons, List.length_nil, Nat.reduceAdd, Nat.reduceSub, Array.replicate_succ, Array.replicate_zero, List.push_toArray, List.append_toArray, List.nil_append, List.cons_append]
  gi_wp2
  gi_loopw [7] (fun i wr => i = .int .i64 0 ∧ J [] wr) (fun _ _ => 0)
  case atStart => exact ⟨rfl, h0⟩
  case round =>
    obtain ⟨rfl, hJs⟩ := hrel
    gi_wp2
    go_end0
    exact ⟨⟨_, rfl⟩, hJs⟩

set_option maxHeartbeats 1000000 in
/-- **slices.Values(s)**: the slice value is boxed; the function value captures the box. -/
theorem values_in (F : Fence) (n : Nat) (hF : F.fn 133) (hro : F.round = none) (a : Option Addr) (len cap : Nat) (w : World) :
    CallsIn F n Tq.prog 133 #[.slice a len cap] w fun e w' => e = .returned (.func (.func 140) #[] #[.pointer (some ⟨w.heap.size, 0, none⟩)]) ∧ w' = w.alloc (.cells #[.slice a len cap] 27) := by
  refine callsIn_of_wp Tq.func133 rfl hF ?_ hro
  simp only [Tq.ntmps133, List.size_toArray, List.length_cons, List.length_nil, Nat.reduceAdd, Nat.reduceSub, Array.replicate_succ, Array.replicate_zero, List.push_toArray, List.append_toArray, List.nil_append, List.cons_append]
  gi_wp2
  go_ret
  exact ⟨rfl, rfl⟩

set_option maxHeartbeats 1000000 in
/-- **ballotCandidates(b)**: just slices.Values(b). -/
theorem candidates_in (F : Fence) (n : Nat) (hn : 1 ≤ n) (hF : F.fn 103) (hV : F.fn 133) (hro : F.round = none) (a : Option Addr) (len cap : Nat) (w : World) :
    CallsIn F n Tq.prog 103 #[.slice a len cap] w fun e w' => e = .returned (.func (.func 140) #[] #[.pointer (some ⟨w.heap.size, 0, none⟩)]) ∧ w' = w.alloc (.cells #[.slice a len cap] 27) := by
  refine callsIn_of_wp Tq.func103 rfl hF ?_ hro
  simp only [Tq.ntmps103, List.size_toArray, List.length_cons, List.length_nil, Nat.reduceAdd, Nat.reduceSub, Array.replicate_succ, Array.replicate_zero, List.push_toArray, List.append_toArray, List.nil_append, List.cons_append]
  gi_wp2_with (gi_at_call 133; refine (values_in F (n - 1) hV hro _ _ _ _).mono ?_; rintro e w' ⟨rfl, rfl⟩)
  go_ret
  exact ⟨rfl, rfl⟩

/-- **slices.Values(s) yields the ints of s in order**, whatever the body does that keeps what lay below; the body may know of each int what its type says. -/
theorem values_stops_g {α : Type} (f : α → Int) (xs : List α) (F : Fence) (n : Nat) (hF : F.fn 140) (hro : F.round = none) (hn : 1 ≤ n) (Bs : Nat) (a : Option Addr) (len cap : Nat) (zs : List Int) (has : xs.map f = zs) (w0 w : World) (hBs : Bs < w.heap.size) (hb0 : Below w0.heap.size w0 w)
    (hc : w.cell? ⟨Bs, 0, none⟩ = some (.slice a len cap)) (hI : IsInts w0 a len cap zs) :
    SeqStopsK F n Tq.prog 140 #[.pointer (some ⟨Bs, 0, none⟩)] (fun x : α => #[Value.int .i64 (f x)]) (Below w0.heap.size) (fun ys => ys = xs) (fun pre => pre <+: xs) len w := fun l J Jx W hW _ _ hY h0 => by
  have hc' := (hW.cell (p := ⟨Bs, 0, none⟩) hBs).trans hc
  have hB := hb0.trans (hW.mono hb0.size)
  obtain ⟨h1, h2, h3, h4⟩ := hI
  have hal : xs.length = len := by rw [← h1, ← has, List.length_map]
  by_cases hl : 0 < len
  · obtain ⟨b, off, rfl, hb, hcs⟩ := h4 hl
    obtain ⟨a0, at0, ha0⟩ : ∃ a0 t, xs = a0 :: t := by
      cases xs with
      | nil => simp at hal; omega
      | cons a0 t => exact ⟨a0, t, rfl⟩
    have hx : ∀ j, j < len → zs[j]?.getD 0 = f (xs[j]?.getD a0) := fun j hj => by
      rw [← has]; simp [show j < xs.length from by omega]
    have hall : upto (fun j => xs[j]?.getD a0) len = xs := by
      apply List.ext_getElem
      · simp [upto, hal]
      · intro i h1 h2
        simp [upto, h2]
    have htake : ∀ k, k ≤ len → upto (fun j => xs[j]?.getD a0) k = xs.take k := fun k hk => by
      apply List.ext_getElem
      · simp [upto]; omega
      · intro i h1 h2
        have : i < xs.length := by simp [upto] at h1; omega
        simp [upto, this]
    refine (values1_in F n hF hro hn l Bs w0.heap.size b off len cap f (fun j => xs[j]?.getD a0) h3 hb J Jx hY W hc' (fun j hj => by rw [← hx j hj]; exact (hB.cell (p := ⟨b, off + j, none⟩) hb).trans (hcs j hj)) h0).mono ?_
    rintro e W' ⟨he, ⟨ys, rfl, hj⟩ | ⟨pre, ⟨k, hk, rfl⟩, hj⟩⟩
    · exact ⟨he, .inl ⟨_, hall, hj⟩⟩
    · exact ⟨he, .inr ⟨_, by rw [htake k hk]; exact List.take_prefix _ _, hj⟩⟩
  · obtain rfl : len = 0 := by omega
    obtain rfl : xs = [] := List.length_eq_zero_iff.1 hal
    exact (values1_nil_in F n hF hro l Bs cap a J W hc' h0).mono fun e W' ⟨he, hj⟩ => ⟨he, .inl ⟨_, rfl, hj⟩⟩

theorem values_stops (F : Fence) (n : Nat) (hF : F.fn 140) (hro : F.round = none) (hn : 1 ≤ n) (Bs : Nat) (a : Option Addr) (len cap : Nat) (zs : List Int) (w0 w : World) (hBs : Bs < w.heap.size) (hb0 : Below w0.heap.size w0 w)
    (hc : w.cell? ⟨Bs, 0, none⟩ = some (.slice a len cap)) (hI : IsInts w0 a len cap zs) :
    SeqStopsK F n Tq.prog 140 #[.pointer (some ⟨Bs, 0, none⟩)] (fun x : Int => #[Value.int .i64 x]) (Below w0.heap.size) (fun ys => ys = zs) (fun pre => pre <+: zs) len w :=
  values_stops_g (fun z : Int => z) zs F n hF hro hn Bs a len cap zs (by simp) w0 w hBs hb0 hc hI

end Go.Proofs.Ytgkakgibgfehaaa

namespace Go.Proofs.Ytgkakgibgfehaaa
open Go.RowKit Go.Shelf

attribute [local go_sem] Oper.semAt_some

/-- A store into another block leaves a cell as it was. -/
theorem other_cell {W : World} {b o b' o' : Nat} {v : Value} (h : b' ≠ b) : (W.setCell ⟨b', o', none⟩ v).cell? ⟨b, o, none⟩ = W.cell? ⟨b, o, none⟩ :=
  World.cell?_setCell_other _ _ _ _ (by intro e; injection e with e1; exact h e1)

/-- The five cells of the array 'named' tell which numbers have come. -/
def Named (W : World) (B : Nat) (pre : List Int) : Prop := ∀ c, c < 5 → W.cell? ⟨B, c, none⟩ = some (.bool (hasB pre (c : Int))) ∧ W.frozen? ⟨B, c, none⟩ = false

theorem Named.own (B : Nat) : Own (fun pre W => Named W B pre) := fun _ _ _ _ hs hg hr c hc => ⟨cell_kept (hs c hc).1 hg hr, (frozen_kept (hs c hc).1 hg hr).trans (hs c hc).2⟩

theorem named_of {W : World} {B : Nat} {t : TypeId} (h : W.heap[B]? = some (.cells #[.bool false, .bool false, .bool false, .bool false, .bool false] t (0, 0))) : Named W B [] := by
  intro c hc
  have e : c = 0 ∨ c = 1 ∨ c = 2 ∨ c = 3 ∨ c = 4 := by omega
  rcases e with rfl | rfl | rfl | rfl | rfl <;> simp [World.cell?, World.frozen?, h, hasB]

theorem named_start (w : World) (o1 o2 o4 : Obj) (t : TypeId) : Named ((((w.alloc o1).alloc o2).alloc (.cells #[.bool false, .bool false, .bool false, .bool false, .bool false] t)).alloc o4) (w.heap.size + 1 + 1) [] := by
  have hb := World.alloc_heap_new ((w.alloc o1).alloc o2) (.cells #[.bool false, .bool false, .bool false, .bool false, .bool false] t)
  simp only [World.size_alloc] at hb
  exact named_of ((Below.heap_alloc _ _ _ (by simp)).trans hb)

/-- A store of true into the cell of a number: it has come. -/
theorem Named.stored {W : World} {B : Nat} {pre : List Int} {c : Nat} (h : Named W B pre) (hc : c < 5) : Named (W.setCell ⟨B, c, none⟩ (.bool true)) B (pre ++ [(c : Int)]) := by
  intro d hd
  refine ⟨?_, by rw [World.frozen?_setCell]; exact (h d hd).2⟩
  by_cases e : d = c
  · subst e
    rw [hasB_app]
    simp only [beq_self_eq_true, Bool.or_true]
    exact World.cell?_setCell_same' _ _ _ (by rw [(h d hd).1]; rfl)
  · rw [hasB_app, show ((c : Int) == (d : Int)) = false from by simp; omega, Bool.or_false]
    rw [World.cell?_setCell_other _ _ _ _ (by intro e'; injection e' with _ e2; exact e e2.symm)]
    exact (h d hd).1

set_option maxRecDepth 100000 in
set_option maxHeartbeats 2000000 in
/-- **impl.BallotValid**, at a number of candidates in range. -/
theorem implValid_yes (F : Fence) (hF : ∀ k, F.fn k) (hro : F.round = none) (a : Option Addr) (len cap : Nat) (zs : List Int) (n : Int) (w : World) (h : IsInts w a len cap zs) (hn1 : 1 ≤ n) (hn5 : n ≤ 5) :
    CallsIn F 8 Tq.prog 82 #[.slice a len cap, .int .i64 n] w fun e w' => e = .returned (.bool (goodL zs (n - 1))) ∧ Below w.heap.size w w' := by
  have H := Lib.hid h; clear h
  have hd1 : decide (n < 1) = false := by simp; omega
  have hd5 : decide (5 < n) = false := by simp; omega
  have hFc := hF 103
  have hFv := hF 140
  refine callsIn_of_wp_marks Tq.func82 rfl (hF _) ?_ hro
  simp only [Tq.ntmps82, List.size_toArray, List.length_cons, List.length_nil, Nat.reduceAdd, Nat.reduceSub, Array.replicate_succ, Array.replicate_zero, List.push_toArray, List.append_toArray, List.nil_append, List.cons_append]
  gi_wp2_with (gi_at_call 103; refine (candidates_in F _ (by omega) hFc (hF _) hro _ _ _ _).mono ?_; rintro e w' ⟨rfl, rfl⟩)
  have bN := Boxed.new w 3 (.int .i64 n)
  have bR := Boxed.new (w.alloc (.cells #[.int .i64 n] 3)) 4 (.bool false)
  rw [World.size_alloc] at bR
  have bA := named_start w (.cells #[.int .i64 n] 3) (.cells #[.bool false] 4) (.cells #[.slice a len cap] 27) 124
  have bV := Boxed.new (((w.alloc (.cells #[.int .i64 n] 3)).alloc (.cells #[.bool false] 4)).alloc (.cells #[.bool false, .bool false, .bool false, .bool false, .bool false] 124)) 27 (.slice a len cap)
  simp only [World.size_alloc] at bV
  have hB0 : Below w.heap.size w ((((w.alloc (.cells #[.int .i64 n] 3)).alloc (.cells #[.bool false] 4)).alloc (.cells #[.bool false, .bool false, .bool false, .bool false, .bool false] 124)).alloc (.cells #[.slice a len cap] 27)) :=
    ((((Below.refl _ w).alloc (Nat.le_refl _) _).alloc (by simp) _).alloc (by simp; omega) _).alloc (by simp; omega) _
  refine wpIn_rangeFunc_ownG hro (by omega) (gf := 140) (lb := #[.pointer (some ⟨w.heap.size + 1 + 1 + 1, 0, none⟩)]) rfl hFv (enters_of Tq.func140 (by kernel_rfl) rfl)
    (values_stops F 7 hFv hro (by omega) (w.heap.size + 1 + 1 + 1) a len cap zs w _ (by simp) hB0 bV.cell H.out) belowK_t (belowK_b (by simp; omega)) (Below.refl _ _) (fun _ => rfl)
    (fun pre W => ((W.cell? ⟨w.heap.size, 0, none⟩ = some (.int .i64 n) ∧ (W.cell? ⟨w.heap.size + 1, 0, none⟩ = some (.bool false) ∧ W.frozen? ⟨w.heap.size + 1, 0, none⟩ = false) ∧ goodL pre (n - 1) = true) ∧ Named W (w.heap.size + 1 + 1) pre) ∧ Below w.heap.size w W)
    (fun c pre W => (c = .ret ∧ goodL pre (n - 1) = false ∧ W.cell? ⟨w.heap.size + 1, 0, none⟩ = some (.bool false)) ∧ Below w.heap.size w W)
    (OwnFrom.and (OwnFrom.and (Own.from (fun s A B row hs hg hr => ⟨cell_kept hs.1 hg hr, ⟨cell_kept hs.2.1.1 hg hr, (frozen_kept hs.2.1.1 hg hr).trans hs.2.1.2⟩, hs.2.2⟩) _) (Own.from (Named.own _) _)) (ownFrom_below (Nat.le_refl _) (by simp; omega)))
    (fun c => OwnFrom.and (Own.from (fun s A B row hs hg hr => ⟨hs.1, hs.2.1, cell_kept hs.2.2 hg hr⟩) _) (ownFrom_below (Nat.le_refl _) (by simp; omega)))
    ⟨⟨⟨(((bN.alloc _).alloc _).alloc _).cell, ⟨((bR.alloc _).alloc _).cell, ((bR.alloc _).alloc _).frozen⟩, by simp [goodL, goodTo]⟩, bA⟩, hB0⟩
    (fun x => { tmps := #[.slice a len cap, .int .i64 n, undef, .pointer (some ⟨w.heap.size, 0, none⟩), .pointer (some ⟨w.heap.size + 1, 0, none⟩), .pointer (some ⟨w.heap.size + 1 + 1, 0, none⟩), .int .i64 x, .int .i64 n,
      .bool false, .bool false, .int .i64 n, .bool false, .bool false, .slice a len cap, .func (.func 140) #[] #[.pointer (some ⟨w.heap.size + 1 + 1 + 1, 0, none⟩)], .int .i64 x,
      undef, undef, undef, undef, undef, undef, undef, undef, undef, undef, undef, undef, undef, undef], defers := [] }) ?assign ?body ?done ?stop
  case assign =>
    intro l x W K hK
    gi_wp2
    exact hK
  case body =>
    rintro l pre x W ⟨⟨⟨hc, ⟨hcr, hfr⟩, hgood⟩, hN⟩, hB⟩ hlt
    have HG := goodL_snoc pre x (n - 1)
    rw [hgood, Bool.true_and] at HG
    have HG := Lib.hid HG
    have hgood := Lib.hid hgood
    by_cases hneg : x < 0
    · have e : inB x 0 (n - 1) = false := by simp [inB]; omega
      have HE := Lib.hid e; clear e
      gi_wp2
      exact ⟨(KeepsOthers.setCell _ _ _).from _, ⟨rfl, by rw [HG.out, HE.out]; rfl, World.cell?_setCell_same' _ _ _ (by rw [hcr]; rfl)⟩, hB.setCell (p := ⟨w.heap.size + 1, 0, none⟩) (by simp) _⟩
    · by_cases hbig : n ≤ x
      · have e : inB x 0 (n - 1) = false := by simp [inB]; omega
        have HE := Lib.hid e; clear e
        gi_wp2
        exact ⟨(KeepsOthers.setCell _ _ _).from _, ⟨rfl, by rw [HG.out, HE.out]; rfl, World.cell?_setCell_same' _ _ _ (by rw [hcr]; rfl)⟩, hB.setCell (p := ⟨w.heap.size + 1, 0, none⟩) (by simp) _⟩
      · have e : inB x 0 (n - 1) = true := by simp [inB]; omega
        have HE := Lib.hid e; clear e
        obtain ⟨c, rfl⟩ := Int.eq_ofNat_of_zero_le (by omega : 0 ≤ x)
        have hc5 : c < 5 := by omega
        obtain ⟨hx, hxf⟩ := hN c hc5
        cases hh : hasB pre (c : Int)
        · gi_wp2
          exact ⟨(KeepsOthers.setCell _ _ _).from _, (Below.refl w.heap.size W).setCell (p := ⟨w.heap.size + 1 + 1, c, none⟩) (by simp; omega) _, ⟨⟨(other_cell (by omega)).trans hc, ⟨(other_cell (by omega)).trans hcr, by rw [World.frozen?_setCell]; exact hfr⟩, by rw [HG.out, HE.out, hh]; rfl⟩, hN.stored hc5⟩, hB.setCell (p := ⟨w.heap.size + 1 + 1, c, none⟩) (by simp; omega) _⟩
        · gi_wp2
          exact ⟨(KeepsOthers.setCell _ _ _).from _, ⟨rfl, by rw [HG.out, HE.out, hh]; rfl, World.cell?_setCell_same' _ _ _ (by rw [hcr]; rfl)⟩, hB.setCell (p := ⟨w.heap.size + 1, 0, none⟩) (by simp) _⟩
  case done =>
    rintro D ys W hD rfl ⟨⟨⟨hc, ⟨hcr, hfr⟩, hgood⟩, hN⟩, hB⟩ hK
    have hgood := Lib.hid hgood
    gi_wp2
    have hK' := (KeepsOthers.setCell W ⟨w.heap.size + 1, 0, none⟩ (.bool true)).same D _ hK rfl
    refine ⟨by simp, .inl ⟨_, _, rfl, run_takeDeferred hK', ?_⟩⟩
    have hc5 := cell_kept (World.cell?_setCell_same' W ⟨w.heap.size + 1, 0, none⟩ (.bool true) (by rw [hcr]; rfl)) (grownBy_putObj' _ D (.deferred none)) (fun r e => by cases e; exact ⟨_, hK', rfl⟩)
    refine ⟨.bool true, ?_, ret_bool hgood.out.symm, (hB.setCell (p := ⟨w.heap.size + 1, 0, none⟩) (by simp) _).trans (belowK_b (w := w) (Nat.le_refl _) _ D _ _ (by simp at hD; omega) hK' rfl rfl)⟩
    simp [results, Tq.f82, go_sem, hc5]
  case stop =>
    rintro D c pre W hD hp ⟨⟨rfl, hbad, hcr⟩, hB⟩ hK
    have hbad := Lib.hid (goodL_prefix hp _ hbad)
    gi_wp2
    refine ⟨by simp, .inl ⟨_, _, rfl, run_takeDeferred hK, ?_⟩⟩
    have hc5 := cell_kept hcr (grownBy_putObj' _ D (.deferred none)) (fun r e => by cases e; exact ⟨_, hK, rfl⟩)
    refine ⟨.bool false, ?_, ret_bool hbad.out.symm, hB.trans (belowK_b (w := w) (Nat.le_refl _) W D _ _ (by simp at hD; omega) hK rfl rfl)⟩
    simp [results, Tq.f82, go_sem, hc5]

set_option maxRecDepth 100000 in
set_option maxHeartbeats 1000000 in
/-- **impl.BallotValid**, at a number of candidates out of range. -/
theorem implValid_no (F : Fence) (hF : ∀ k, F.fn k) (hro : F.round = none) (a : Option Addr) (len cap : Nat) (n : Int) (w : World) (hn : n < 1 ∨ 5 < n) :
    CallsIn F 8 Tq.prog 82 #[.slice a len cap, .int .i64 n] w fun e w' => e = .returned (.bool false) ∧ Below w.heap.size w w' := by
  rcases hn with h | h
  · have hd1 : decide (n < 1) = true := by simp; omega
    refine callsIn_of_wp Tq.func82 rfl (hF _) ?_ hro
    simp only [Tq.ntmps82, List.size_toArray, List.length_cons, List.length_nil, Nat.reduceAdd, Nat.reduceSub, Array.replicate_succ, Array.replicate_zero, List.push_toArray, List.append_toArray, List.nil_append, List.cons_append]
    gi_wp2
    exact bodyPost_ret (v := .bool false) (by simp [results, Tq.f82, go_sem]) rfl ⟨rfl, ((Below.refl _ w).alloc (Nat.le_refl _) _).alloc (by simp) _⟩
  · have hd1 : decide (n < 1) = false := by simp; omega
    have hd5 : decide (5 < n) = true := by simp; omega
    refine callsIn_of_wp Tq.func82 rfl (hF _) ?_ hro
    simp only [Tq.ntmps82, List.size_toArray, List.length_cons, List.length_nil, Nat.reduceAdd, Nat.reduceSub, Array.replicate_succ, Array.replicate_zero, List.push_toArray, List.append_toArray, List.nil_append, List.cons_append]
    gi_wp2
    exact bodyPost_ret (v := .bool false) (by simp [results, Tq.f82, go_sem]) rfl ⟨rfl, ((Below.refl _ w).alloc (Nat.le_refl _) _).alloc (by simp) _⟩

/-- **impl.BallotValid** answers as the model does. -/
theorem implValid_any (a : Option Addr) (len cap : Nat) (zs : List Int) (n : Int) (w : World) (h : IsInts w a len cap zs) :
    Calls Tq.prog 82 #[.slice a len cap, .int .i64 n] w fun e w' => e = .returned (.bool (validB zs n)) ∧ Below w.heap.size w w' := by
  refine (callsIn_wide (n := 8)).1 ?_
  by_cases h1 : 1 ≤ n
  · by_cases h5 : n ≤ 5
    · rw [validB_in h1 h5]
      exact implValid_yes _ (fun _ => trivial) rfl a len cap zs n w h h1 h5
    · rw [validB_out (.inr (by omega))]
      exact implValid_no _ (fun _ => trivial) rfl a len cap n w (.inr (by omega))
  · rw [validB_out (.inl (by omega))]
    exact implValid_no _ (fun _ => trivial) rfl a len cap n w (.inl (by omega))

theorem implValid_wide (m : Nat) (a : Option Addr) (len cap : Nat) (zs : List Int) (n : Int) (w : World) (h : IsInts w a len cap zs) :
    CallsIn Fence.wide m Tq.prog 82 #[.slice a len cap, .int .i64 n] w fun e w' => e = .returned (.bool (validB zs n)) ∧ Below w.heap.size w w' :=
  callsIn_wide.2 (implValid_any a len cap zs n w h)

end Go.Proofs.Ytgkakgibgfehaaa

namespace Go.Proofs.Ytgkakgibgfehaaa
open Go.RowKit

set_option maxHeartbeats 400000 in
/-- **l1Has**: whether a list has a number. -/
theorem l1Has_any (a : Option Addr) (len cap : Nat) (zs : List Int) (c : Int) (w : World) (h : IsInts w a len cap zs) :
    Calls Tq.prog 97 #[.slice a len cap, .int .i64 c] w fun e w' => e = .returned (.bool (hasB zs c)) ∧ w = w' := by
  obtain ⟨h1, h2, h3, h4⟩ := h
  have H1 := Lib.hid h1; clear h1
  have H4 := Lib.hid h4; clear h4
  go_enter Tq.func97, Tq.ntmps97
  go_wp2
  go_loop [5] (fun i => ∃ k : Nat, k ≤ len ∧ i = .int .i64 k ∧ Hid (hasB (zs.take k) c = false)) (fun i => len - (intOf i).toNat)
  case atStart => exact ⟨0, Nat.zero_le _, rfl, by simp [Hid, hasB]⟩
  case round =>
    obtain ⟨k, hk, rfl, hc⟩ := hrel
    by_cases hlt : k < len
    · obtain ⟨b, off, rfl, hb, hcell⟩ := H4.out (by omega)
      have hck := hcell k hlt
      have HC := hasB_snoc zs k c (by rw [H1.out]; exact hlt)
      rw [hc.out, Bool.false_or] at HC
      have HC' := Lib.hid HC
      clear HC hcell
      by_cases heq : (zs[k]?.getD 0 == c) = true
      · go_wp2
        go_ret
        refine ⟨ret_bool ?_, rfl⟩
        have h5 := HC'.out
        rw [heq] at h5
        simp only [hasB, List.contains_iff_mem] at h5
        have h6 : c ∈ zs := List.mem_of_mem_take h5
        simp [hasB, h6]
      · have heq' : (zs[k]?.getD 0 == c) = false := by simpa using heq
        clear heq
        go_wp2
        go_round
        case rel => exact ⟨k + 1, by omega, by go_num, by unfold Hid; rw [HC'.out, heq']⟩
        case measure => simp [intOf]; omega
    · go_wp2
      go_ret
      refine ⟨ret_bool ?_, rfl⟩
      have h5 := hc.out
      rw [List.take_of_length_le (by rw [H1.out]; omega)] at h5
      exact h5.symm

end Go.Proofs.Ytgkakgibgfehaaa

namespace Go.Proofs.Ytgkakgibgfehaaa
open Go.RowKit

set_option maxHeartbeats 400000 in
/-- **spec.BallotValid**. -/
theorem specValid_any (a : Option Addr) (len cap : Nat) (zs : List Int) (n : Int) (w : World) (h : IsInts w a len cap zs) :
    Calls Tq.prog 90 #[.slice a len cap, .int .i64 n] w fun e w' => e = .returned (.bool (validB zs n)) ∧ Dr w w' := by
  obtain ⟨m, hm⟩ : ∃ m, wrap64 (n - 1) = m := ⟨_, rfl⟩
  have H := Lib.hid h; clear h
  have HV : Hid (validB zs n = (goodTo zs m len && inB n 1 5)) := by unfold Hid validB; rw [hm, H.out.1]
  go_enter Tq.func90, Tq.ntmps90
  go_wp2
  go_loopw [5] (fun i wr => ∃ k : Nat, k ≤ len ∧ i = .int .i64 k ∧ Hid (goodTo zs m k = true) ∧ Dr w wr) (fun i _ => len - (intOf i).toNat)
  case atStart => exact ⟨0, Nat.zero_le _, rfl, by simp [Hid, goodTo], Dr.refl _⟩
  case round =>
    obtain ⟨k, hk, rfl, hc, hd⟩ := hrel
    by_cases hlt : k < len
    · have HI := H.out.dr hd
      have HK := HI.take hk
      obtain ⟨h1, h2, h3, h4⟩ := HI
      obtain ⟨b, off, rfl, hb, hcell⟩ := h4 (by omega)
      have hck := hcell k hlt
      have HS := goodTo_succ zs m k
      rw [hc.out, Bool.true_and] at HS
      have HS := Lib.hid HS
      clear h1 h4 hcell
      by_cases hin : inB (zs[k]?.getD 0) 0 m = true
      · cases hh : hasB (zs.take k) (zs[k]?.getD 0)
        all_goals
          go_wp2
          go_quiet (first | (go_at_call 63; exact quiet_same (l6In_any _ _ _ _)) | (go_at_call 97; exact quiet_same (l1Has_any _ _ _ _ _ _ (HK.drewN _))))
          go_wp2
        · go_roundw
          case rel => exact ⟨k + 1, by omega, by go_num, by unfold Hid; rw [HS.out, hin, hh]; rfl, hd.drewN _⟩
          case measure => simp [intOf]; omega
        · go_ret
          refine ⟨ret_bool ?_, hd.drewN _⟩
          rw [HV.out, goodTo_no (by rw [HS.out, hin, hh]; rfl) hlt]; rfl
      · have hin' : inB (zs[k]?.getD 0) 0 m = false := by simpa using hin
        clear hin
        go_wp2
        go_quiet (first | (go_at_call 63; exact quiet_same (l6In_any _ _ _ _)) | (go_at_call 97; exact quiet_same (l1Has_any _ _ _ _ _ _ (HK.drewN _))))
        go_wp2
        go_ret
        refine ⟨ret_bool ?_, hd.drewN _⟩
        rw [HV.out, goodTo_no (by rw [HS.out, hin']; rfl) hlt]; rfl
    · obtain rfl : k = len := by omega
      go_wp2_with (go_at_call 63; refine (l6In_any _ _ _ _).mono ?_; rintro e w' ⟨rfl, rfl⟩)
      go_ret
      refine ⟨ret_bool ?_, hd⟩
      rw [HV.out, hc.out, Bool.true_and]

end Go.Proofs.Ytgkakgibgfehaaa

namespace Go.Proofs.Ytgkakgibgfehaaa
open Go.RowKit

theorem ret_str {a b : ByteArray} (h : a = b) : Ending.returned (.string a) = .returned (.string b) := by rw [h]

set_option maxHeartbeats 1000000 in
/-- **spec.BallotText**. -/
theorem specText_any (a : Option Addr) (len cap : Nat) (zs : List Int) (w : World) (h : IsInts w a len cap zs) :
    Calls Tq.prog 78 #[.slice a len cap] w fun e w' => e = .returned (.string (txtB zs)) ∧ Dr w w' := by
  have hm := h.2.2.1
  have H := Lib.hid h; clear h
  cases hv : validB zs 5
  · have e : Hid (txtB zs = ByteArray.empty) := by simp [Hid, txtB, hv]
    go_enter Tq.func78, Tq.ntmps78
    go_wp2
    go_loopw [3, 4] (fun o i wr => o = .string ByteArray.empty ∧ i = .int .i64 0 ∧ wr = w) (fun _ _ _ => 0)
    case atStart => exact ⟨rfl, rfl, rfl⟩
    case round =>
      obtain ⟨rfl, rfl, rfl⟩ := hrel
      by_cases hl : 0 < len
      · go_wp2_with fail
        refine (specValid_any _ _ _ zs _ _ H.out).mono ?_
        rintro e1 w1 ⟨rfl, hd⟩
        go_wp2
        go_ret
        exact ⟨ret_str e.out.symm, hd⟩
      · go_wp2
        go_ret
        exact ⟨ret_str e.out.symm, Dr.refl _⟩
  · have e : Hid (txtB zs = txtOf zs) := by simp [Hid, txtB, hv]
    have HR := Lib.hid (vB_mem hv).2.2
    go_enter Tq.func78, Tq.ntmps78
    go_wp2
    go_loopw [3, 4] (fun o i wr => ∃ k : Nat, k ≤ len ∧ i = .int .i64 k ∧ (∃ s, o = .string s ∧ s.size ≤ k ∧ Hid (s = txtOf (zs.take k))) ∧ Dr w wr) (fun _ i _ => len - (intOf i).toNat)
    case atStart => exact ⟨0, Nat.zero_le _, rfl, ⟨_, rfl, Nat.le_refl 0, by unfold Hid; rfl⟩, Dr.refl _⟩
    case round =>
      obtain ⟨k, hk, rfl, ⟨s, rfl, hs, hst⟩, hd⟩ := hrel
      obtain ⟨h1, _, _, h4⟩ := H.out.dr hd
      have H1 := Lib.hid h1; clear h1
      by_cases hlt : k < len
      · have hkz : k < zs.length := by rw [H1.out]; exact hlt
        have hr := HR.out (zs[k]?.getD 0) (by simp [hkz])
        obtain ⟨c, hcz⟩ := Int.eq_ofNat_of_zero_le hr.1
        obtain ⟨b, o, rfl, hb, hcell⟩ := h4 (by omega)
        have hz := hcell k hlt
        rw [hcz] at hz
        have hc5 : c < 5 := by omega
        have HT := take_snoc zs k hkz
        rw [hcz] at HT
        have HT := Lib.hid HT
        clear hcell h4 hr hcz hkz
        go_wp2_with fail
        refine (specValid_any _ _ _ zs _ _ (H.out.dr hd)).mono ?_
        rintro e1 w1 ⟨rfl, hd1⟩
        have hz1 := (Below.cell (p := ⟨b, o + k, none⟩) (hd1.below wr.heap.size) hb).trans hz
        clear hz
        go_wp2
        go_quiet (fail)
        go_wp2
        go_roundw
        case rel =>
          refine ⟨k + 1, by omega, by go_num, ⟨_, rfl, ?_, ?_⟩, (hd.trans hd1).drewN _⟩
          · rw [letter_of c hc5, ByteArray.size_append, txtOf_size]; simp; omega
          · unfold Hid; rw [letter_of c hc5, HT.out, txtOf_snoc, hst.out]
        case measure => simp [intOf]; omega
      · obtain rfl : k = len := by omega
        clear h4
        go_wp2
        go_ret
        refine ⟨ret_str ?_, hd⟩
        rw [e.out, hst.out, List.take_of_length_le (by rw [H1.out]; omega)]

end Go.Proofs.Ytgkakgibgfehaaa

namespace Go.Proofs.Ytgkakgibgfehaaa
open Go.RowKit Go.Shelf

end Go.Proofs.Ytgkakgibgfehaaa

namespace Go.Proofs.Ytgkakgibgfehaaa
open Go.RowKit

/-- What a row owns it owns while what lay there stays. -/
theorem owns_below {w w' : World} {base n size : Nat} {e : TypeId} {v : Value} {xs : List Value} (h : w.ownsRow base e size v n xs) (hb : Below w.heap.size w w') : w'.ownsRow base e size v n xs := by
  refine h.kept (row := none) ⟨hb.os, hb.tape, hb.output, hb.size, fun k hk _ => hb.block k hk⟩ ?_
  cases v.ownBlock <;> simp

/-- What is returned: the ballot, in memory of the call's own; and whether there is one. -/
def Parsed (w : World) (s : ByteArray) (e : Ending) (w' : World) : Prop :=
  ∃ a cap, e = .returned (.tuple #[.slice a (parseL s).length cap, .bool (validB (nums s) 5)]) ∧ w'.ownsRow w.heap.size 3 1 (.slice a (parseL s).length cap) (parseL s).length ((parseL s).map (Value.int .i64)) ∧ Below w.heap.size w w'

set_option maxHeartbeats 1000000 in
/-- **spec.BallotParse**. -/
theorem specParse_any (s : ByteArray) (w : World) (hs : s.size ≤ 1048600) :
    Calls Tq.prog 72 #[.string s] w (Parsed w s) := by
  obtain ⟨i0, hi, hz0, hz1, hz2⟩ := info_parts int_info
  have hown0 := World.ownsRow_lit (base := w.heap.size) (e := 3) (size := 1) w #[] 0 (Nat.le_refl _) (by unfold maxLen; omega) rfl
  have HO := Lib.hid hown0; clear hown0
  go_enter Tq.func72, Tq.ntmps72
  go_wp2
  go_loopw [4, 5] (fun o i wr => ∃ k : Nat, k ≤ s.size ∧ i = .int .i64 k ∧ (∃ v, o = v ∧ Hid (wr.ownsRow w.heap.size 3 1 v k (((nums s).take k).map (Value.int .i64)))) ∧ Below w.heap.size w wr) (fun _ i _ => s.size - (intOf i).toNat)
  case atStart => exact ⟨0, Nat.zero_le _, rfl, ⟨_, rfl, HO.out⟩, (Below.refl _ w).alloc (Nat.le_refl _) _⟩
  case round =>
    obtain ⟨k, hk, rfl, ⟨v, rfl, hov⟩, hB⟩ := hrel
    by_cases hlt : k < s.size
    · have h256 : (s[k].toNat : Int) < 256 := by have := s[k].toNat_lt; omega
      have HN := Lib.hid (nums_step s k hlt)
      have hsz := hB.size
      go_wp2_with (at_builtin; refine wpList_append_own _ rfl _ _ 27 rfl w.heap.size 3 i0 (.int .i64 0) 1 8 Tq.underlying27 hi hz0 hz1 hz2 rfl (by decide) _ _ _ rfl (hov.out.alloc _) ⟨wr.heap.size, 0, none⟩ 1 1 [.int .i64 ((s[k].toNat : Int) - 97)] rfl rfl (cell_one_new _ _ _) (by simp [Value.oneCell']) (by unfold maxLen; omega) (by omega) (by simp; omega) ?_; intro v' w3 hown' hgrow _)
      have hB3 : Below w.heap.size w w3 := (hB.alloc hsz _).grown hgrow (by simp; omega) (fun j ej => (hov.out.lt j ej).1)
      clear hgrow
      go_roundw
      case rel =>
        refine ⟨k + 1, by omega, by go_num, ⟨v', rfl, ?_⟩, hB3⟩
        unfold Hid
        rw [HN.out, List.map_append]
        exact hown'
      case measure => simp [intOf]; omega
    · obtain rfl : k = s.size := by omega
      have hall : (nums s).take s.size = nums s := List.take_of_length_le (by rw [nums_length]; omega)
      have ho := hov.out
      rw [hall] at ho
      clear hov hall
      obtain ⟨a, cap, hv⟩ := owns_slice ho
      rw [hv] at ho ⊢
      clear hv
      have HI := Lib.hid (IsInts.of_owned ho hs)
      have HO2 := Lib.hid ho; clear ho
      cases hok : validB (nums s) 5
      · have hp : Hid (parseL s = []) := by simp [Hid, parseL, hok]
        go_wp2_with fail
        refine (specValid_any _ _ _ (nums s) _ _ HI.out).mono ?_
        rintro e w4 ⟨rfl, hd⟩
        have hB4 := hB.trans (hd.below _)
        have hsz4 := hB4.size
        go_wp2
        go_ret2
        refine ⟨some ⟨w4.heap.size, 0, none⟩, 0, ?_, ?_, ?_⟩
        · rw [hp.out, hok]; rfl
        · rw [hp.out]; exact World.ownsRow_lit w4 #[] 0 hsz4 (by unfold maxLen; omega) rfl
        · exact hB4.alloc hsz4 _
      · have hp : Hid (parseL s = nums s) := by simp [Hid, parseL, hok]
        go_wp2_with fail
        refine (specValid_any _ _ _ (nums s) _ _ HI.out).mono ?_
        rintro e w4 ⟨rfl, hd⟩
        have hB4 := hB.trans (hd.below _)
        go_wp2
        go_ret2
        refine ⟨a, cap, ?_, ?_, hB4⟩
        · rw [hp.out, nums_length, hok]; rfl
        · rw [hp.out, nums_length]; obtain ⟨q, rfl⟩ := hd; exact HO2.out

/-- **spec.BallotParse**, its answer named. -/
theorem specParse_as (s : ByteArray) (pl : List Int) (ok : Bool) (w : World) (hs : s.size ≤ 1048600) (h1 : parseL s = pl) (h2 : validB (nums s) 5 = ok) :
    Calls Tq.prog 72 #[.string s] w fun e w' => ∃ a cap, e = .returned (.tuple #[.slice a pl.length cap, .bool ok]) ∧ w'.ownsRow w.heap.size 3 1 (.slice a pl.length cap) pl.length (pl.map (Value.int .i64)) ∧ Below w.heap.size w w' := by
  subst h1; subst h2; exact specParse_any s w hs

end Go.Proofs.Ytgkakgibgfehaaa

namespace Go.Proofs.Ytgkakgibgfehaaa
open Go.RowKit Go.Shelf

attribute [local go_sem] Oper.semAt_some

/-- Different numbers from 0 to n-1 are at most n. -/
theorem short_of : ∀ (n : Nat) (l : List Int), l.Nodup → (∀ z ∈ l, 0 ≤ z ∧ z < (n : Int)) → l.length ≤ n
  | 0, l, _, h => by
    cases l with
    | nil => exact Nat.le_refl 0
    | cons z t => have := h z (by simp); omega
  | n + 1, l, hd, h => by
    by_cases hm : (n : Int) ∈ l
    · have h1 := short_of n (l.erase (n : Int)) (hd.erase _) (fun z hz => by
        have hz' := (hd.mem_erase_iff).1 hz
        have := h z hz'.2
        have hne := hz'.1
        omega)
      rw [List.length_erase_of_mem hm] at h1
      omega
    · have h1 := short_of n l hd (fun z hz => by
        have := h z hz
        have hne : z ≠ (n : Int) := fun e => hm (e ▸ hz)
        omega)
      omega
theorem goodTo_nodup {zs : List Int} {m : Int} (h : goodTo zs m zs.length = true) : zs.Nodup := by
  rw [List.Nodup, List.pairwise_iff_getElem]
  intro i j hi hj hij e
  simp only [goodTo, List.all_eq_true, List.mem_range] at h
  have := h j hj
  simp only [Bool.and_eq_true, Bool.not_eq_true', hasB] at this
  have h2 := this.2
  simp only [hj, List.getElem?_eq_getElem, Option.getD_some, List.contains_eq_mem, decide_eq_false_iff_not] at h2
  exact h2 (by rw [← e]; exact List.mem_take_iff_getElem.2 ⟨i, by omega, rfl⟩)
theorem validB_short {zs : List Int} (h : validB zs 5 = true) : zs.length ≤ 5 := by
  have hm := (vB_mem h).2.2
  rw [validB_in (by omega) (by omega)] at h
  exact short_of 5 zs (goodTo_nodup h) hm

set_option maxRecDepth 100000 in
set_option maxHeartbeats 2000000 in
/-- letterCandidates's closure. -/
theorem letters1_in (F : Fence) (n : Nat) (hF : F.fn 132) (hro : F.round = none) (hn : 1 ≤ n) (l Bs n₀ : Nat) (s : ByteArray) (hreach : s.size ≤ 1048600) (hb : Bs < n₀) (J Jx : List Int → World → Prop)
    (hY : ∀ pre x W, J pre W → pre.length < s.size → YieldAt F (n - 1) Tq.prog l #[.int .i64 x] W fun e W' =>
      (e = .returned (.bool true) ∧ J (pre ++ [x]) W' ∧ Below n₀ W W') ∨ (e = .returned (.bool false) ∧ Jx (pre ++ [x]) W'))
    (W : World) (hBs : W.cell? ⟨Bs, 0, none⟩ = some (.string s)) (h0 : J [] W) :
    CallsIn F n Tq.prog 132 #[.func (.yield l) #[] #[], .pointer (some ⟨Bs, 0, none⟩)] W fun e W' => (∃ v, e = .returned v) ∧
      ((∃ ys, ys = upto (fun j => (nums s)[j]?.getD 0) s.size ∧ J ys W') ∨ (∃ pre, (∃ k, k ≤ s.size ∧ pre = upto (fun j => (nums s)[j]?.getD 0) k) ∧ Jx pre W')) := by
  refine callsIn_of_wp Tq.func132 rfl hF ?_ hro
  simp only [Tq.ntmps132, List.size_toArray, List.length_cons, List.length_nil, Nat.reduceAdd, Nat.reduceSub, Array.replicate_succ, Array.replicate_zero, List.push_toArray, List.append_toArray, List.nil_append, List.cons_append]
  gi_wp2
  gi_loopw [6] (fun i wr => ∃ k : Nat, k ≤ s.size ∧ i = .int .i64 k ∧ J (upto (fun j => (nums s)[j]?.getD 0) k) wr ∧ Below n₀ W wr)
    (fun i _ => s.size - (intOf i).toNat)
  case atStart => exact ⟨0, Nat.zero_le _, rfl, h0, Below.refl _ _⟩
  case round =>
    obtain ⟨k, hk, rfl, hJs, hnx⟩ := hrel
    have hBs' : wr.cell? ⟨Bs, 0, none⟩ = some (.string s) := (hnx.cell (p := ⟨Bs, 0, none⟩) hb).trans hBs
    by_cases hlt : k < s.size
    · have h256 : (s[k].toNat : Int) < 256 := by have := s[k].toNat_lt; omega
      have HN := Lib.hid (nums_at s k hlt)
      obtain ⟨fn, tmps, assign, body, hy, hR⟩ := hY _ ((s[k].toNat : Int) - 97) wr hJs (by rw [upto_length]; exact hlt)
      gi_wp2
      refine hR.mono ?_
      rintro e W3 (⟨rfl, hJ3, hk3⟩ | ⟨rfl, hJx3⟩)
      · gi_wp2
        go_roundw
        case rel => exact ⟨k + 1, by omega, by simp, by rw [upto_succ, HN.out]; exact hJ3, hnx.trans hk3⟩
        case measure => simp [intOf]; omega
      · gi_wp2
        refine bodyPost_ret (results_none rfl _ _ _) rfl ?_
        exact ⟨⟨_, rfl⟩, .inr ⟨_, ⟨k + 1, by omega, rfl⟩, by rw [upto_succ, HN.out]; exact hJx3⟩⟩
    · obtain rfl : k = s.size := by omega
      gi_wp2
      go_end0
      exact ⟨⟨_, rfl⟩, .inl ⟨_, rfl, hJs⟩⟩

/-- **letterCandidates(text) yields the numbers of its letters in order.** -/
theorem letters_stops (F : Fence) (n : Nat) (hF : F.fn 132) (hro : F.round = none) (hn : 1 ≤ n) (Bs : Nat) (s : ByteArray) (hreach : s.size ≤ 1048600) (w0 w : World) (hBs : Bs < w0.heap.size) (hb0 : Below w0.heap.size w0 w)
    (hc : w0.cell? ⟨Bs, 0, none⟩ = some (.string s)) :
    SeqStopsK F n Tq.prog 132 #[.pointer (some ⟨Bs, 0, none⟩)] (fun x : Int => #[Value.int .i64 x]) (Below w0.heap.size) (fun ys => ys = nums s) (fun pre => pre <+: nums s) s.size w := fun l J Jx W hW _ _ hY h0 => by
  have hB := hb0.trans (hW.mono hb0.size)
  have hl := nums_length s
  refine (letters1_in F n hF hro hn l Bs w0.heap.size s hreach hBs J Jx hY W ((hB.cell (p := ⟨Bs, 0, none⟩) hBs).trans hc) h0).mono ?_
  rintro e W' ⟨he, ⟨ys, rfl, hj⟩ | ⟨pre, ⟨k, hk, rfl⟩, hj⟩⟩
  · exact ⟨he, .inl ⟨_, by rw [← hl]; exact upto_all _, hj⟩⟩
  · exact ⟨he, .inr ⟨_, by rw [upto_take _ (by omega)]; exact List.take_prefix _ _, hj⟩⟩

set_option maxHeartbeats 1000000 in
theorem letterCandidates_in (F : Fence) (n : Nat) (hF : F.fn 102) (hro : F.round = none) (s : ByteArray) (w : World) :
    CallsIn F n Tq.prog 102 #[.string s] w fun e w' => e = .returned (.func (.func 132) #[] #[.pointer (some ⟨w.heap.size, 0, none⟩)]) ∧ w' = w.alloc (.cells #[.string s] 9) := by
  refine callsIn_of_wp Tq.func102 rfl hF ?_ hro
  simp only [Tq.ntmps102, List.size_toArray, List.length_cons, List.length_nil, Nat.reduceAdd, Nat.reduceSub, Array.replicate_succ, Array.replicate_zero, List.push_toArray, List.append_toArray, List.nil_append, List.cons_append]
  gi_wp2
  go_ret
  exact ⟨rfl, rfl⟩

set_option maxRecDepth 100000 in
set_option maxHeartbeats 2000000 in
/-- **slices.AppendSeq** of nothing and of letterCandidates's value. -/
theorem appendSeq_in (Bs : Nat) (s : ByteArray) (hreach : s.size ≤ 1048600) (w : World) (hBs : Bs < w.heap.size) (hc0 : w.cell? ⟨Bs, 0, none⟩ = some (.string s)) :
    CallsIn Fence.wide 8 Tq.prog 131 #[.slice none 0 0, .func (.func 132) #[] #[.pointer (some ⟨Bs, 0, none⟩)]] w fun e w' =>
      ∃ v, e = .returned v ∧ w'.ownsRow w.heap.size 3 1 v s.size ((nums s).map (Value.int .i64)) ∧ Below w.heap.size w w' := by
  have hro : Fence.wide.round = none := rfl
  obtain ⟨i0, hi, hz0, hz1, hz2⟩ := info_parts int_info
  have HC := Lib.hid hc0; clear hc0
  refine callsIn_of_wp_marks Tq.func131 rfl trivial ?_ hro
  simp only [Tq.ntmps131, List.size_toArray, List.length_cons, List.length_nil, Nat.reduceAdd, Nat.reduceSub, Array.replicate_succ, Array.replicate_zero, List.push_toArray, List.append_toArray, List.nil_append, List.cons_append]
  gi_wp2
  have bO := Boxed.new w 27 (.slice none 0 0)
  have hB0 : Below w.heap.size w (w.alloc (.cells #[.slice none 0 0] 27)) := (Below.refl _ w).alloc (Nat.le_refl _) _
  refine wpIn_rangeFunc_ownG hro (by omega) (gf := 132) (lb := #[.pointer (some ⟨Bs, 0, none⟩)]) rfl trivial (enters_of Tq.func132 (by kernel_rfl) rfl)
    (letters_stops Fence.wide 7 trivial hro (by omega) Bs s hreach w _ hBs hB0 HC.out) belowK_t (belowK_b (by simp)) (Below.refl _ _) (fun _ => rfl)
    (fun pre W => (∃ v, Boxed W w.heap.size 27 v ∧ W.ownsRow w.heap.size 3 1 v pre.length (pre.map (Value.int .i64)) ∧ True) ∧ Below w.heap.size w W)
    (fun _ _ _ => False)
    (OwnFrom.and (Own.from (holdsRow_own w.heap.size w.heap.size 27 3 1 (fun (pre : List Int) => pre.length) (fun (pre : List Int) => pre.map (Value.int .i64)) (fun (pre : List Int) v => True)) _) (ownFrom_below (Nat.le_refl _) (by simp)))
    (fun _ _ _ _ _ hs _ _ => hs)
    ⟨⟨_, bO, World.ownsRow_nil _ _ _ _, trivial⟩, hB0⟩
    (fun z => { tmps := #[.slice none 0 0, .func (.func 132) #[] #[.pointer (some ⟨Bs, 0, none⟩)], .pointer (some ⟨w.heap.size, 0, none⟩), undef, .slice none 0 0, .int .i64 z,
      .func (.func 132) #[] #[.pointer (some ⟨Bs, 0, none⟩)], .int .i64 z, undef, undef, undef, undef, undef], defers := [] }) ?assign ?body ?done ?stop
  case assign =>
    intro l z W K hK
    gi_wp2
    exact hK
  case body =>
    rintro l pre z W ⟨⟨v, hv, hrow, _⟩, hB⟩ hlt
    have hc := hv.cell
    gi_wp2_with (gi_at_builtin; refine wpListIn_append_own _ rfl _ _ 27 rfl w.heap.size 3 i0 (.int .i64 0) 1 8 Tq.underlying27 hi hz0 hz1 hz2 rfl (by decide) _ _ _ rfl (hrow.alloc _) ⟨W.heap.size, 0, none⟩ 1 1 [.int .i64 z] rfl rfl (cell_one_new _ _ _) (by simp [Value.oneCell']) (by unfold maxLen; omega) (by omega) (by have := hB.size; simp; omega) ?_; intro v' w3 hown' hgrow _; obtain ⟨g', cap', rfl⟩ := ownsRow_succ hown'; obtain ⟨hv1, hv2, hr2, hk2, hb2⟩ := hv.appended (by decide) hrow hB.size (Nat.le_refl _) hown' hgrow; have hc1 := hv1.cell; have hf1 := hv1.frozen)
    exact ⟨hk2.from _, hb2, ⟨_, hv2, by simpa using hr2, trivial⟩, hB.trans hb2⟩
  case done =>
    rintro D ys W hD rfl ⟨⟨v, hv, hrow, _⟩, hB⟩ hK
    have hc := hv.cell
    rw [nums_length] at hrow
    have HRow := Lib.hid hrow; clear hrow
    gi_wp2
    refine ⟨by simp, .inl ⟨_, _, rfl, run_takeDeferred hK, ?_⟩⟩
    exact ⟨_, results_tmp rfl _ _ _, v, rfl, ownsRow_putObj HRow.out _ hK rfl, hB.trans (belowK_b (w := w) (Nat.le_refl _) W D _ _ (by simp at hD; omega) hK rfl rfl)⟩
  case stop =>
    rintro D c pre W _ _ h _
    exact h.elim

set_option maxRecDepth 100000 in
set_option maxHeartbeats 1000000 in
/-- **slices.Collect** of letterCandidates's value. -/
theorem collect_in (Bs : Nat) (s : ByteArray) (hreach : s.size ≤ 1048600) (w : World) (hBs : Bs < w.heap.size) (hc0 : w.cell? ⟨Bs, 0, none⟩ = some (.string s)) :
    Calls Tq.prog 101 #[.func (.func 132) #[] #[.pointer (some ⟨Bs, 0, none⟩)]] w fun e w' =>
      ∃ v, e = .returned v ∧ w'.ownsRow w.heap.size 3 1 v s.size ((nums s).map (Value.int .i64)) ∧ Below w.heap.size w w' := by
  have HC := Lib.hid hc0; clear hc0
  go_enter Tq.func101, Tq.ntmps101
  go_wp2_with fail
  refine (callsIn_wide.1 (appendSeq_in Bs s hreach w hBs HC.out)).mono ?_
  rintro e w1 ⟨v, rfl, ho, hb⟩
  go_wp2
  go_ret
  exact ⟨_, rfl, ho, hb⟩

end Go.Proofs.Ytgkakgibgfehaaa
