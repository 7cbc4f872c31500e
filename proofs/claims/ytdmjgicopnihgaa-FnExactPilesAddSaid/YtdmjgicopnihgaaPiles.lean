/-
  What a slice of piles holds: two cells a pile, its text and its number. Of any type of two cells; no function of the seat.
-/
import Derived.Test.YtdmjgicopnihgaaPileQ
import Derived.Test.YtdmjgicopnihgaaOwn
namespace Go.Proofs.Ytdmjgicopnihgaa
open Go.RowKit

/-- The cells of piles. -/
def cellsP : List Pl → List Value
  | [] => []
  | p :: ps => .string p.1 :: .int .i64 p.2 :: cellsP ps
theorem cellsP_length : ∀ ps : List Pl, (cellsP ps).length = ps.length * 2
  | [] => rfl
  | p :: ps => by rw [cellsP, List.length_cons, List.length_cons, cellsP_length ps, List.length_cons]; omega
theorem cellsP_app (a b : List Pl) : cellsP (a ++ b) = cellsP a ++ cellsP b := by
  induction a with
  | nil => rfl
  | cons p a ih => rw [List.cons_append, cellsP, cellsP, ih]; rfl
theorem cellsP_one (p : Pl) : cellsP [p] = [.string p.1, .int .i64 p.2] := rfl
theorem cellsP_text : ∀ (ps : List Pl) (j : Nat), j < ps.length → (cellsP ps)[j * 2]? = some (.string (tAt ps j))
  | [], j, h => by simp at h
  | p :: ps, 0, _ => rfl
  | p :: ps, j + 1, h => by
    rw [tAt_cons, cellsP, show (j + 1) * 2 = j * 2 + 1 + 1 by omega, List.getElem?_cons_succ, List.getElem?_cons_succ]
    exact cellsP_text ps j (by simpa using h)
theorem cellsP_many : ∀ (ps : List Pl) (j : Nat), j < ps.length → (cellsP ps)[j * 2 + 1]? = some (.int .i64 (mAt ps j))
  | [], j, h => by simp at h
  | p :: ps, 0, _ => rfl
  | p :: ps, j + 1, h => by
    rw [mAt_cons, cellsP, show (j + 1) * 2 + 1 = j * 2 + 1 + 1 + 1 by omega, List.getElem?_cons_succ, List.getElem?_cons_succ]
    exact cellsP_many ps j (by simpa using h)
theorem cellsP_take : ∀ (ps : List Pl) (k : Nat), (cellsP ps).take (k * 2) = cellsP (ps.take k)
  | [], k => by simp [cellsP]
  | p :: ps, 0 => by simp [cellsP]
  | p :: ps, k + 1 => by rw [cellsP, show (k + 1) * 2 = k * 2 + 1 + 1 by omega, List.take_succ_cons, List.take_succ_cons, cellsP_take ps k, List.take_succ_cons, cellsP]
theorem cellsP_drop : ∀ (ps : List Pl) (k : Nat), (cellsP ps).drop (k * 2) = cellsP (ps.drop k)
  | [], k => by simp [cellsP]
  | p :: ps, 0 => by simp
  | p :: ps, k + 1 => by rw [cellsP, show (k + 1) * 2 = k * 2 + 1 + 1 by omega, List.drop_succ_cons, List.drop_succ_cons, cellsP_drop ps k, List.drop_succ_cons]
theorem cellsP_set : ∀ (ps : List Pl) (k : Nat) (m : Int), k < ps.length → (cellsP ps).set (k * 2 + 1) (.int .i64 m) = cellsP (ps.set k (tAt ps k, m))
  | [], k, m, h => by simp at h
  | p :: ps, 0, m, _ => rfl
  | p :: ps, k + 1, m, h => by
    rw [tAt_cons, cellsP, show (k + 1) * 2 + 1 = k * 2 + 1 + 1 + 1 by omega, List.set_cons_succ, List.set_cons_succ, cellsP_set ps k m (by simpa using h), List.set_cons_succ, cellsP]

/-- The slice value reads as the piles ps. -/
def IsPiles (w : World) (a : Option Addr) (len cap : Nat) (ps : List Pl) : Prop :=
  ps.length = len ∧ len ≤ cap ∧ len ≤ 1048600 ∧ (0 < len → ∃ b off, a = some ⟨b, off, none⟩ ∧ b < w.heap.size ∧
    ∀ j, j < len → w.cell? ⟨b, off + j * 2, none⟩ = some (.string (tAt ps j)) ∧ w.cell? ⟨b, off + j * 2 + 1, none⟩ = some (.int .i64 (mAt ps j)))
theorem IsPiles.below {w w' : World} {a : Option Addr} {len cap : Nat} {ps : List Pl} (h : IsPiles w a len cap ps) (hb : Below w.heap.size w w') : IsPiles w' a len cap ps := by
  obtain ⟨h1, h2, h3, h4⟩ := h
  refine ⟨h1, h2, h3, fun hl => ?_⟩
  obtain ⟨b, off, e, hlt, hc⟩ := h4 hl
  exact ⟨b, off, e, Nat.lt_of_lt_of_le hlt hb.size, fun j hj => ⟨(hb.cell (p := ⟨b, off + j * 2, none⟩) hlt).trans (hc j hj).1, (hb.cell (p := ⟨b, off + j * 2 + 1, none⟩) hlt).trans (hc j hj).2⟩⟩
theorem IsPiles.dr {w w' : World} {a : Option Addr} {len cap : Nat} {ps : List Pl} (h : IsPiles w a len cap ps) (hd : Dr w w') : IsPiles w' a len cap ps := h.below (hd.below _)
theorem tAt_take {ps : List Pl} {k j : Nat} (h : j < k) : tAt (ps.take k) j = tAt ps j := by unfold tAt; rw [List.getElem?_take_of_lt h]
theorem mAt_take {ps : List Pl} {k j : Nat} (h : j < k) : mAt (ps.take k) j = mAt ps j := by unfold mAt; rw [List.getElem?_take_of_lt h]
theorem tAt_drop (ps : List Pl) (k j : Nat) : tAt (ps.drop k) j = tAt ps (k + j) := by unfold tAt; rw [List.getElem?_drop]
theorem mAt_drop (ps : List Pl) (k j : Nat) : mAt (ps.drop k) j = mAt ps (k + j) := by unfold mAt; rw [List.getElem?_drop]
theorem IsPiles.take {w : World} {a : Option Addr} {len cap : Nat} {ps : List Pl} (h : IsPiles w a len cap ps) {k : Nat} (hk : k ≤ len) : IsPiles w a k cap (ps.take k) := by
  obtain ⟨h1, h2, h3, h4⟩ := h
  refine ⟨by simp; omega, by omega, by omega, fun hl => ?_⟩
  obtain ⟨b, off, e, hlt, hc⟩ := h4 (by omega)
  exact ⟨b, off, e, hlt, fun j hj => by rw [tAt_take hj, mAt_take hj]; exact hc j (by omega)⟩
theorem IsPiles.drop {w : World} {b off len cap cap' : Nat} {ps : List Pl} (h : IsPiles w (some ⟨b, off, none⟩) len cap ps) {k : Nat} (hk : k ≤ len) (hc' : len - k ≤ cap') : IsPiles w (some ⟨b, off + k * 2, none⟩) (len - k) cap' (ps.drop k) := by
  obtain ⟨h1, h2, h3, h4⟩ := h
  refine ⟨by rw [List.length_drop, h1], hc', Nat.le_trans (Nat.sub_le _ _) h3, fun hl => ?_⟩
  obtain ⟨b', off', e, hlt, hc⟩ := h4 (by omega)
  injection e with e
  injection e with e1 e2 e3
  subst e1; subst e2
  refine ⟨b, off + k * 2, rfl, hlt, fun j hj => ?_⟩
  have := hc (k + j) (by omega)
  rw [tAt_drop, mAt_drop, show off + k * 2 + j * 2 = off + (k + j) * 2 by omega]
  exact this
theorem IsPiles.empty (w : World) (a : Option Addr) (cap : Nat) : IsPiles w a 0 cap [] := ⟨rfl, Nat.zero_le _, by omega, fun h => by omega⟩
/-- What a row of piles that is owned says to a reader. -/
theorem IsPiles.of_owned {w : World} {base len cap : Nat} {e : TypeId} {a : Option Addr} {ps : List Pl} (h : w.ownsRow base e 2 (.slice a len cap) len (cellsP ps)) (hl : len ≤ 1048600) : IsPiles w a len cap ps := by
  have hlen : ps.length = len := by have h1 := h.1; rw [cellsP_length] at h1; omega
  rcases h.2 with ⟨e1, e0⟩ | ⟨g, c, cur, e1, hb, hg, hcap, hmax, hcur, htake⟩
  · subst e0
    have hz : ps = [] := List.length_eq_zero_iff.1 hlen
    subst hz
    exact ⟨rfl, Nat.zero_le _, hl, fun hp => by omega⟩
  · injection e1 with e1 e2 e3
    subst e1
    subst e3
    refine ⟨hlen, hcap, hl, fun hp => ⟨g, 0, rfl, (h.lt g rfl).2, fun j hj => ⟨?_, ?_⟩⟩⟩
    · rw [Nat.zero_add, h.cellAt (j * 2) (by omega)]
      exact cellsP_text ps j (by omega)
    · rw [Nat.zero_add]
      rw [h.cellAt (j * 2 + 1) (by omega)]
      exact cellsP_many ps j (by omega)
/-- The cells of a slice of piles, read together. -/
theorem IsPiles.cells {w : World} {b off len cap : Nat} {ps : List Pl} (h : IsPiles w (some ⟨b, off, none⟩) len cap ps) (j : Nat) (hj : j < len * 2) : w.cell? ⟨b, off + j, none⟩ = (cellsP ps)[j]? := by
  obtain ⟨h1, h2, h3, h4⟩ := h
  obtain ⟨b', off', e, hlt, hc⟩ := h4 (by omega)
  injection e with e
  injection e with e1 e2 e3
  subst e1; subst e2
  have hq := hc (j / 2) (by omega)
  rcases Nat.mod_two_eq_zero_or_one j with g | g
  · rw [show j = j / 2 * 2 by omega]
    rw [cellsP_text ps (j / 2) (by omega)]
    exact hq.1
  · rw [show j = j / 2 * 2 + 1 by omega]
    rw [cellsP_many ps (j / 2) (by omega)]
    exact hq.2

end Go.Proofs.Ytdmjgicopnihgaa
