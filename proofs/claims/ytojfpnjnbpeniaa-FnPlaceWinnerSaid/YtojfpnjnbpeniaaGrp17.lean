/-
  sameTable at equal tables; what the walks of drawn pairs share.
  What the walks of the statements of points share.
-/
import Derived.Test.YtojfpnjnbpeniaaGrp15
import Derived.Test.YtojfpnjnbpeniaaGrp13
import Derived.Test.YtojfpnjnbpeniaaGrp14
import Derived.Test.YtojfpnjnbpeniaaGrp16
import Derived.BigQuiet
namespace Go.Proofs.Ytojfpnjnbpeniaa
open Go.RowKit

theorem quiet_dr8 {P : Program} {f : FuncId} {args : Array Value} {w : World} {n : Nat} {v : Value}
    (h : Calls P f args (w.drewN n) fun e w' => e = .returned v ∧ Dr (w.drewN n) w') : Calls P f args (w.drewN n) fun e w'' => e = .returned v ∧ ∃ m, w'' = w.drewN m :=
  h.mono fun _ _ ⟨he, q, hq⟩ => ⟨he, n + q, by rw [hq]; simp⟩

theorem IsRows.empty (w : World) (a : Option Addr) (cap : Nat) : IsRows w a 0 cap [] := ⟨rfl, Nat.zero_le _, by omega, fun h => by omega⟩

theorem fits_sub {a b : List Pl} {n : Int} (h : fitsB a n = true) (hs : List.Sublist b a) : fitsB b n = true := by
  simp only [fitsB, Bool.and_eq_true, List.all_eq_true] at h ⊢
  exact ⟨piles_sub h.1 hs, h.2.1, fun p hp => h.2.2 p (hs.subset hp)⟩
theorem one_of {l : List Int} {a : Int} (h : ∀ z ∈ l, z = a) (ha : a ∈ l) (hp : l.Pairwise (· < ·)) : l = [a] := by
  cases l with
  | nil => cases ha
  | cons z t =>
    have hz := h z (by simp)
    subst hz
    cases t with
    | nil => rfl
    | cons y t =>
      have hy := h y (by simp)
      rw [List.pairwise_cons] at hp
      have := hp.1 y (by simp)
      omega
theorem cand_one {B : Nat → Bool} {n x0 : Nat} (hx0 : x0 < n) (h : ∀ x, x < n → (B x = true ↔ x = x0)) : candTo B n = [(x0 : Int)] := by
  refine one_of (fun z hz => ?_) ((candTo_has hx0).2 ((h x0 hx0).2 rfl)) (candTo_asc B n)
  obtain ⟨x, hx, hb, rfl⟩ := candTo_mem.1 hz
  rw [(h x hx).1 hb]
theorem lit_one (w : World) (z : Int) (t : TypeId) : IsInts (w.alloc (.cells #[.int .i64 z] t)) (some ⟨w.heap.size, 0, none⟩) 1 1 [z] :=
  ⟨rfl, Nat.le_refl _, by omega, fun _ => ⟨w.heap.size, 0, rfl, by simp, fun j hj => by
    obtain rfl : j = 0 := by omega
    exact (World.cell?_alloc_mark w _ t (0, 0) 0).trans rfl⟩⟩
theorem sameInts_self (a : Option Addr) (len cap : Nat) (zs : List Int) (b : Option Addr) (cap' : Nat) (w : World) (h : IsInts w a len cap zs) (h' : IsInts w b len cap' zs) :
    Calls Try.prog 18 #[.slice a len cap, .slice b len cap'] w fun e w' => e = .returned (.bool true) ∧ Dr w w' :=
  (sameInts_any a len cap zs b len cap' zs w h h').mono fun e w' ⟨he, hd⟩ => ⟨by rw [he, eqB_self], hd⟩
theorem cand_at {B : Nat → Bool} {n i : Nat} (h : i < (candTo B n).length) : ∃ x, x < n ∧ B x = true ∧ (candTo B n)[i]?.getD 0 = (x : Int) := by
  have hm : (candTo B n)[i]?.getD 0 ∈ candTo B n := by
    rw [List.getElem?_eq_getElem h]; exact List.getElem_mem h
  obtain ⟨x, hx, hb, e⟩ := candTo_mem.1 hm
  exact ⟨x, hx, hb, e⟩
theorem cand_up {B : Nat → Bool} {n j : Nat} (h : j + 1 < (candTo B n).length) : (candTo B n)[j]?.getD 0 < (candTo B n)[j + 1]?.getD 0 := by
  have hp := candTo_asc B n
  rw [List.pairwise_iff_getElem] at hp
  rw [List.getElem?_eq_getElem (by omega), List.getElem?_eq_getElem h]
  exact hp j (j + 1) (by omega) h (by omega)
theorem cand_hasB {B : Nat → Bool} {n x : Nat} (hx : x < n) : hasB (candTo B n) (x : Int) = B x := by
  unfold hasB
  cases h : B x
  · have : ¬ (x : Int) ∈ candTo B n := fun g => by rw [(candTo_has hx).1 g] at h; cases h
    simpa using this
  · have : (x : Int) ∈ candTo B n := (candTo_has hx).2 h
    simpa using this
theorem cand_index {B : Nat → Bool} {n x : Nat} (hx : x < n) (h : B x = true) : ∃ k, k < (candTo B n).length ∧ (candTo B n)[k]?.getD 0 = (x : Int) := by
  obtain ⟨k, hk, e⟩ := List.mem_iff_getElem.1 ((candTo_has hx).2 h)
  exact ⟨k, hk, by rw [List.getElem?_eq_getElem hk]; exact e⟩
theorem ptopF_short {ps : List Pl} {n : Int} : (ptopF ps n).length ≤ 5 := by
  unfold ptopF
  cases h : fitsB ps n
  · simp
  · obtain ⟨_, h1, h5, _⟩ := fits_parts h
    simp only [if_true]
    exact Nat.le_trans (candTo_short _ _) (by omega)
theorem pbestF_short {ps : List Pl} {n : Int} : (pbestF ps n).length ≤ 5 := by
  unfold pbestF
  cases h : fitsB ps n
  · simp
  · obtain ⟨_, h1, h5, _⟩ := fits_parts h
    simp only [if_true]
    exact Nat.le_trans (candTo_short _ _) (by omega)
theorem IsInts.get {w : World} {a : Option Addr} {len cap : Nat} {zs : List Int} (h : IsInts w a len cap zs) (hl : 0 < len) : ∃ b off, a = some ⟨b, off, none⟩ ∧ b < w.heap.size ∧ ∀ j, j < len → w.cell? ⟨b, off + j, none⟩ = some (.int .i64 (zs[j]?.getD 0)) := h.2.2.2 hl
/-- The two tables that are compared: impl's and the model's. -/
structure Two2 (w : World) (B : Nat) (ok : Bool) (n : Nat) (M : Nat → Nat → Int) (a b : Option Addr) (l c c' : Nat) : Prop where
  len : l = if ok = true then n else 0
  ia : IsRows w a l c (if ok = true then tabL n M else [])
  ib : IsRows w b l c' (if ok = true then tabL n M else [])

end Go.Proofs.Ytojfpnjnbpeniaa

namespace Go.Proofs.Ytojfpnjnbpeniaa
open Go.RowKit

theorem txt_five {ps : List Pl} (h : pilesB ps = true) (i : Nat) : (tAt ps i).size ≤ 5 := by
  by_cases hi : i < ps.length
  · have h1 := (pilesB_pos h).2.2.2.1 _ (pile_mem hi)
    have := vB_short h1
    rw [nums_length] at this
    simp only at this
    omega
  · simp [tAt, List.getElem?_eq_none (Nat.le_of_not_lt hi)]
theorem take_pile {ps : List Pl} {i : Nat} (h : i < ps.length) : ps.take (i + 1) = ps.take i ++ [(tAt ps i, mAt ps i)] := by
  have e0 : (tAt ps i, mAt ps i) = ps[i] := by simp [tAt, mAt, h]
  rw [List.take_succ_eq_append_getElem h, e0]
theorem wsum_take {f : ByteArray → Int} {ps : List Pl} {i : Nat} (h : i < ps.length) : wsum f (ps.take (i + 1)) = wsum f (ps.take i) + f (tAt ps i) * mAt ps i := by rw [take_pile h, wsum_snoc]
theorem wsum_sizes {ps : List Pl} (h : pilesB ps = true) : ∀ i, i ≤ ps.length → 0 ≤ wsum (fun t => (t.size : Int)) (ps.take i) ∧ wsum (fun t => (t.size : Int)) (ps.take i) ≤ 500 * (i : Int)
  | 0, _ => by rw [List.take_zero, wsum_nil]; omega
  | i + 1, hi => by
    have ih := wsum_sizes h i (by omega)
    have h1 := mAt_valid h i
    have h2 := txt_five h i
    have h3 : 0 ≤ ((tAt ps i).size : Int) * mAt ps i := Int.mul_nonneg (by omega) h1.1
    have h4 : ((tAt ps i).size : Int) * mAt ps i ≤ 5 * 99 := Int.mul_le_mul (by omega) h1.2 h1.1 (by omega)
    rw [wsum_take (by omega)]
    omega
theorem tb_row {w : World} {base g n : Nat} {G C : Nat → Nat} {F : Nat → Nat → Int} (h : Tb 3 26 w base (some ⟨g, 0, none⟩) n n n n G C (fun x y => .int .i64 (F x y))) {x : Nat} (hx : x < n) (hn : n ≤ 20) : IsInts w (some ⟨G x, 0, none⟩) n (C x) ((List.range n).map fun y => F x y) := by
  have h1 := h.inner x hx
  have h2 : ((List.range n).map fun j => Value.int .i64 (F x j)) = ((List.range n).map fun y => F x y).map (Value.int .i64) := by simp
  rw [h2] at h1
  exact IsInts.of_owned h1 (by omega)
theorem row_bound {F : Nat → Nat → Int} (h : ∀ x y, 0 ≤ F x y ∧ F x y ≤ 1188) {n : Nat} (x y : Nat) : 0 ≤ ((List.range n).map fun y => F x y)[y]?.getD 0 ∧ ((List.range n).map fun y => F x y)[y]?.getD 0 ≤ 100000 := by
  by_cases hy : y < n
  · have : ((List.range n).map fun y => F x y)[y]?.getD 0 = F x y := by simp [hy]
    rw [this]; have := h x y; omega
  · rw [List.getElem?_eq_none (by simp; omega)]; simp
theorem depWin_some {ps : List Pl} {lots : List Int} {r d : Int} (h : depWin ps lots = (r, d)) (h0 : 0 ≤ r) : conB ps lots = true := by
  cases hc : conB ps lots
  · rw [depWin, hc] at h
    obtain ⟨e, _⟩ := Prod.ext_iff.1 h
    have e : (-1 : Int) = r := e
    omega
  · rfl
theorem plaWin_some {ps : List Pl} {lots : List Int} {r : Int} (h : plaWin ps lots = r) (h0 : 0 ≤ r) : conB ps lots = true := by
  cases hc : conB ps lots
  · rw [plaWin, hc] at h
    rw [← h] at h0
    simp at h0
  · rfl
theorem con_parts {ps : List Pl} {lots : List Int} (h : conB ps lots = true) : lotsB lots = true ∧ fitsB ps (lots.length : Int) = true := by simpa [conB] using h
/-- PlaceWinner with two candidates exchanged. -/
theorem plaWin_turn {ps : List Pl} {lots : List Int} {x y : Nat} (hl : lotsB lots = true) (hf : fitsB ps (lots.length : Int) = true) (hx : x < lots.length) (hy : y < lots.length) : plaWin (turnPs (x : Int) (y : Int) ps) (turnB (x : Int) (y : Int) lots) = swapC (x : Int) (y : Int) (plaW ps lots) := by
  obtain ⟨hl', hlen⟩ := lots_turn hl (x := (x : Int)) (y := (y : Int)) (by omega) (by omega)
  have hf' := fits_turn hf hx hy
  have hc : conB (turnPs (x : Int) (y : Int) ps) (turnB (x : Int) (y : Int) lots) = true := by rw [conB, hl', hlen, hf']; rfl
  rw [plaWin, if_pos hc]
  exact pla_turn hl (pilesB_pos (fits_parts hf).1).2.1 (fits_both hf).2 (by omega) (by omega) (fits_both hf').2

end Go.Proofs.Ytojfpnjnbpeniaa
