/-
  What a slice of ints, and a slice of bytes, holds; the contract of the small function that every statement of this seat goes through (l6In). No condition but what each theorem says.
  What an argument that is a slice of ints, of bytes or of bools says to a walk; two closed facts of this seat's program. No condition but what each theorem says.
  Valid ballots, as lists. Of no memory.
  The marks 1, 2 and so on of a ballot, as a list; what a valid ballot's numbers are. Of no memory.
  Lots, as lists: what they are, how a seed draws them, the first of some, the seal. Of no memory.
  Texts and ballots, as lists. Of no memory.
  Piles, as lists: valid ones, adding, merging, exchanging, totals. Of no memory.
-/
import Derived.Test.YtbcemgmfkddafaaRows
import Derived.WalkKit
import Derived.WalkSpells
import Derived.WalkLawsBesides
import Derived.Deep.QuietTactic
import Derived.BigQuiet
import Derived.Lib.Hide
import Derived.ProofKit
import Derived.OpenShut
import Derived.ShutString
import Derived.ChangeOld
import Derived.Below
import Derived.Deep.Grids
import Derived.Laws.BytesArg
import Derived.Laws.Strings
namespace Go.Proofs.Ytbcemgmfkddafaa
open Go.RowKit

/-- The slice value with address a, length len and capacity cap reads as the ints zs in the world w. -/
def IsInts (w : World) (a : Option Addr) (len cap : Nat) (zs : List Int) : Prop :=
  zs.length = len ∧ len ≤ cap ∧ len ≤ 1048600 ∧ (0 < len → ∃ b off, a = some ⟨b, off, none⟩ ∧ b < w.heap.size ∧ ∀ j, j < len → w.cell? ⟨b, off + j, none⟩ = some (.int .i64 (zs[j]?.getD 0)))

theorem IsInts.below {w w' : World} {a : Option Addr} {len cap : Nat} {zs : List Int} (h : IsInts w a len cap zs) (hb : Below w.heap.size w w') : IsInts w' a len cap zs := by
  obtain ⟨h1, h2, h3, h4⟩ := h
  refine ⟨h1, h2, h3, fun hl => ?_⟩
  obtain ⟨b, off, e, hlt, hc⟩ := h4 hl
  exact ⟨b, off, e, Nat.lt_of_lt_of_le hlt hb.size, fun j hj => (hb.cell (p := ⟨b, off + j, none⟩) hlt).trans (hc j hj)⟩

theorem below_drewN (B : Nat) (w : World) (q : Nat) : Below B w (w.drewN q) := ⟨rfl, rfl, rfl, Nat.le_refl _, fun _ _ => rfl⟩
theorem IsInts.drewN {w : World} {a : Option Addr} {len cap : Nat} {zs : List Int} (h : IsInts w a len cap zs) (q : Nat) : IsInts (w.drewN q) a len cap zs := h.below (below_drewN _ _ _)
/-- The world w' is w behind some draws. -/
def Dr (w w' : World) : Prop := ∃ q, w' = w.drewN q
theorem Dr.refl (w : World) : Dr w w := ⟨0, rfl⟩
theorem Dr.drewN {w w' : World} (h : Dr w w') (q : Nat) : Dr w (w'.drewN q) := by obtain ⟨n, rfl⟩ := h; exact ⟨n + q, by simp⟩
theorem Dr.trans {a b c : World} (h : Dr a b) (k : Dr b c) : Dr a c := by obtain ⟨n, rfl⟩ := k; exact h.drewN n
theorem Dr.below {w w' : World} (h : Dr w w') (B : Nat) : Below B w w' := by obtain ⟨n, rfl⟩ := h; exact below_drewN _ _ _
theorem IsInts.dr {w w' : World} {a : Option Addr} {len cap : Nat} {zs : List Int} (h : IsInts w a len cap zs) (hd : Dr w w') : IsInts w' a len cap zs := h.below (hd.below _)
theorem quiet_same {P : Program} {f : FuncId} {args : Array Value} {w : World} {n : Nat} {v : Value}
    (h : Calls P f args (w.drewN n) fun e w' => e = .returned v ∧ w.drewN n = w') : Calls P f args (w.drewN n) fun e w'' => e = .returned v ∧ ∃ m, w'' = w.drewN m :=
  h.mono fun _ _ ⟨he, hm⟩ => ⟨he, n, hm.symm⟩

theorem IsInts.take {w : World} {a : Option Addr} {len cap : Nat} {zs : List Int} (h : IsInts w a len cap zs) {k : Nat} (hk : k ≤ len) : IsInts w a k cap (zs.take k) := by
  obtain ⟨h1, h2, h3, h4⟩ := h
  refine ⟨by simp; omega, by omega, by omega, fun hl => ?_⟩
  obtain ⟨b, off, e, hlt, hc⟩ := h4 (by omega)
  exact ⟨b, off, e, hlt, fun j hj => by rw [hc j (by omega), List.getElem?_take_of_lt hj]⟩

/-- A list has a number; a number is in a range: behind names that the walk does not open. -/
theorem ret_bool {a b : Bool} (h : a = b) : Ending.returned (.bool a) = .returned (.bool b) := by rw [h]
theorem ret_int {a b : Int} (h : a = b) : Ending.returned (.int .i64 a) = .returned (.int .i64 b) := by rw [h]
def hasB (zs : List Int) (c : Int) : Bool := zs.contains c
def inB (n lo hi : Int) : Bool := decide (lo ≤ n ∧ n ≤ hi)

theorem hasB_snoc (zs : List Int) (k : Nat) (c : Int) (h : k < zs.length) : hasB (zs.take (k + 1)) c = (hasB (zs.take k) c || (zs[k]?.getD 0 == c)) := by
  unfold hasB
  rw [List.take_succ_eq_append_getElem h]
  have e : zs[k]?.getD 0 = zs[k] := by simp [h]
  rw [e, Bool.eq_iff_iff]
  simp only [List.contains_iff_mem, List.mem_append, List.mem_singleton, Bool.or_eq_true, beq_iff_eq]
  exact ⟨fun h => h.imp id Eq.symm, fun h => h.imp id Eq.symm⟩

theorem drop_cons (zs : List Int) (k : Nat) (h : k < zs.length) : zs.drop k = zs[k]?.getD 0 :: zs.drop (k + 1) := by
  rw [List.drop_eq_getElem_cons h]; simp [h]

/-- The first k numbers are from 0 to m, and none of them comes twice. -/
def goodTo (zs : List Int) (m : Int) (k : Nat) : Bool := (List.range k).all fun i => inB (zs[i]?.getD 0) 0 m && !hasB (zs.take i) (zs[i]?.getD 0)
theorem goodTo_succ (zs : List Int) (m : Int) (k : Nat) : goodTo zs m (k + 1) = (goodTo zs m k && (inB (zs[k]?.getD 0) 0 m && !hasB (zs.take k) (zs[k]?.getD 0))) := by
  simp [goodTo, List.range_succ]
theorem goodTo_no {zs : List Int} {m : Int} {k n : Nat} (h : goodTo zs m (k + 1) = false) (hk : k < n) : goodTo zs m n = false := by
  simp only [goodTo, List.all_eq_false, List.mem_range] at h ⊢
  obtain ⟨i, h1, h2⟩ := h
  exact ⟨i, by omega, h2⟩

/-- A ballot is valid for n candidates. -/
def validB (zs : List Int) (n : Int) : Bool := goodTo zs (wrap64 (n - 1)) zs.length && inB n 1 5

set_option maxHeartbeats 400000 in
/-- **l6In**: whether n is from low to high. -/
theorem l6In_any (n lo hi : Int) (w : World) :
    Calls Try.prog 57 #[.int .i64 n, .int .i64 lo, .int .i64 hi] w fun e w' => e = .returned (.bool (inB n lo hi)) ∧ w = w' := by
  by_cases h1 : lo ≤ n
  · by_cases h2 : n ≤ hi
    · have e : inB n lo hi = true := by simp [inB]; omega
      rw [e]; clear e
      go_enter Try.func57, Try.ntmps57
      go_wp2
      go_ret
      exact ⟨rfl, rfl⟩
    · have e : inB n lo hi = false := by simp [inB]; omega
      rw [e]; clear e
      go_enter Try.func57, Try.ntmps57
      go_wp2
      go_ret
      exact ⟨rfl, rfl⟩
  · have e : inB n lo hi = false := by simp [inB]; omega
    rw [e]; clear e
    go_enter Try.func57, Try.ntmps57
    go_wp2
    go_ret
    exact ⟨rfl, rfl⟩

end Go.Proofs.Ytbcemgmfkddafaa

namespace Go.Proofs.Ytbcemgmfkddafaa
open Go.RowKit

theorem own : ownKnob Try.prog.godebug = none := by kernel_rfl
theorem laidOut : laidOutB Try.prog = true := by kernel_rfl

theorem add_spot (b off j : Nat) : (⟨b, off, none⟩ : Addr).add j = ⟨b, off + j, none⟩ := by
  by_cases h : j = 0 <;> simp [Addr.add, h]

/-- A slice of integers that came in: it is nil, or it leads to a row of cap cells, the numbers zs (the first len are its elements). -/
def IsRow (k : IntKind) (w : World) (a : Option Addr) (len cap : Nat) (zs : List Int) : Prop :=
  (a = none ∧ len = 0 ∧ cap = 0 ∧ zs = []) ∨
  ∃ x, a = some x ∧ len ≤ cap ∧ cap ≤ maxLen ∧ zs.length = cap ∧ (∀ i, i < zs.length → w.cell? (x.add i) = some (.int k (zs.getD i 0))) ∧ ∀ n ∈ zs, (Lit.int k n).wf = true

theorem IsRow.ints {w : World} {a : Option Addr} {len cap : Nat} {zs : List Int} (h : IsRow .i64 w a len cap zs) (hl : len ≤ 1048576) : IsInts w a len cap (zs.take len) := by
  rcases h with ⟨rfl, rfl, rfl, rfl⟩ | ⟨⟨b, off, spot⟩, rfl, h1, h2, h3, h4, _⟩
  · exact ⟨rfl, Nat.le_refl _, by omega, fun h => by omega⟩
  · refine ⟨by simp; omega, h1, by omega, fun hp => ?_⟩
    have h0 := h4 0 (by omega)
    have hs : spot = none := by simpa [Addr.add] using World.cell?_spot h0
    subst hs
    refine ⟨b, off, rfl, World.block_lt_of_cell? w _ h0, fun j hj => ?_⟩
    have := h4 j (by omega)
    rw [List.getElem?_take_of_lt hj]
    rw [add_spot] at this
    simpa [List.getD] using this

/-- The slice value reads as the bytes zs. -/
def IsBytes (w : World) (a : Option Addr) (len : Nat) (zs : List Int) : Prop :=
  zs.length = len ∧ (∀ z ∈ zs, 0 ≤ z ∧ z ≤ 255) ∧ (0 < len → ∃ b off, a = some ⟨b, off, none⟩ ∧ b < w.heap.size ∧ ∀ j, j < len → w.cell? ⟨b, off + j, none⟩ = some (.int .u8 (zs[j]?.getD 0)))

theorem IsBytes.below {w w' : World} {a : Option Addr} {len : Nat} {zs : List Int} (h : IsBytes w a len zs) (hb : Below w.heap.size w w') : IsBytes w' a len zs := by
  obtain ⟨h1, h2, h4⟩ := h
  refine ⟨h1, h2, fun hl => ?_⟩
  obtain ⟨b, off, e, hlt, hc⟩ := h4 hl
  exact ⟨b, off, e, Nat.lt_of_lt_of_le hlt hb.size, fun j hj => (hb.cell (p := ⟨b, off + j, none⟩) hlt).trans (hc j hj)⟩

theorem IsRow.bytes {w : World} {a : Option Addr} {len cap : Nat} {zs : List Int} (h : IsRow .u8 w a len cap zs) : IsBytes w a len (zs.take len) := by
  rcases h with ⟨rfl, rfl, rfl, rfl⟩ | ⟨⟨b, off, spot⟩, rfl, h1, h2, h3, h4, h5⟩
  · exact ⟨rfl, by simp, fun h => by omega⟩
  · refine ⟨by simp; omega, fun z hz => ?_, fun hp => ?_⟩
    · have := h5 z (List.mem_of_mem_take hz)
      simp [Lit.wf, IntKind.min, IntKind.max, IntKind.signed, IntKind.bits] at this
      omega
    have h0 := h4 0 (by omega)
    have hs : spot = none := by simpa [Addr.add] using World.cell?_spot h0
    subst hs
    refine ⟨b, off, rfl, World.block_lt_of_cell? w _ h0, fun j hj => ?_⟩
    have := h4 j (by omega)
    rw [List.getElem?_take_of_lt hj]
    rw [add_spot] at this
    simpa [List.getD] using this

theorem IsRow.cap {k : IntKind} {w : World} {a : Option Addr} {len cap : Nat} {zs : List Int} (h : IsRow k w a len cap zs) : len ≤ cap := by
  rcases h with ⟨rfl, rfl, rfl, rfl⟩ | ⟨x, rfl, h1, _⟩
  · exact Nat.le_refl _
  · exact h1

/-- The slice value reads as the bools zs. -/
def IsBools (w : World) (a : Option Addr) (len cap : Nat) (zs : List Bool) : Prop :=
  zs.length = len ∧ len ≤ cap ∧ len ≤ 1048600 ∧ (0 < len → ∃ b off, a = some ⟨b, off, none⟩ ∧ b < w.heap.size ∧ ∀ j, j < len → w.cell? ⟨b, off + j, none⟩ = some (.bool (zs[j]?.getD false)))

theorem IsBools.below {w w' : World} {a : Option Addr} {len cap : Nat} {zs : List Bool} (h : IsBools w a len cap zs) (hb : Below w.heap.size w w') : IsBools w' a len cap zs := by
  obtain ⟨h1, h2, h3, h4⟩ := h
  refine ⟨h1, h2, h3, fun hl => ?_⟩
  obtain ⟨b, off, e, hlt, hc⟩ := h4 hl
  exact ⟨b, off, e, Nat.lt_of_lt_of_le hlt hb.size, fun j hj => (hb.cell (p := ⟨b, off + j, none⟩) hlt).trans (hc j hj)⟩
theorem IsBools.dr {w w' : World} {a : Option Addr} {len cap : Nat} {zs : List Bool} (h : IsBools w a len cap zs) (hd : Dr w w') : IsBools w' a len cap zs := h.below (hd.below _)

/-- A slice of bools that came in. -/
def IsBoolRow (w : World) (a : Option Addr) (len cap : Nat) (B : Nat → Bool) : Prop :=
  (a = none ∧ len = 0 ∧ cap = 0) ∨ ∃ x, a = some x ∧ len ≤ cap ∧ cap ≤ maxLen ∧ ∀ i, i < cap → w.cell? (x.add i) = some (.bool (B i))

theorem IsBoolRow.bools {w : World} {a : Option Addr} {len cap : Nat} {B : Nat → Bool} (h : IsBoolRow w a len cap B) (hl : len ≤ 1048576) : IsBools w a len cap ((List.range len).map B) := by
  rcases h with ⟨rfl, rfl, rfl⟩ | ⟨⟨b, off, spot⟩, rfl, h1, h2, h4⟩
  · exact ⟨rfl, Nat.le_refl _, by omega, fun h => by omega⟩
  · refine ⟨by simp, h1, by omega, fun hp => ?_⟩
    have h0 := h4 0 (by omega)
    have hs : spot = none := by simpa [Addr.add] using World.cell?_spot h0
    subst hs
    refine ⟨b, off, rfl, World.block_lt_of_cell? w _ h0, fun j hj => ?_⟩
    have := h4 j (by omega)
    rw [add_spot] at this
    simpa [hj] using this

end Go.Proofs.Ytbcemgmfkddafaa

namespace Go.Proofs.Ytbcemgmfkddafaa
open Go.RowKit

theorem goodTo_prefix {pre zs : List Int} (h : pre <+: zs) (m : Int) {k : Nat} (hk : k ≤ pre.length) : goodTo zs m k = goodTo pre m k := by
  obtain ⟨t, rfl⟩ := h
  unfold goodTo
  rw [Bool.eq_iff_iff]
  simp only [List.all_eq_true, List.mem_range]
  have e : ∀ i, i < k → (pre ++ t)[i]?.getD 0 = pre[i]?.getD 0 ∧ (pre ++ t).take i = pre.take i := fun i hi => by
    refine ⟨by rw [List.getElem?_append_left (by omega)], by rw [List.take_append_of_le_length (by omega)]⟩
  exact ⟨fun h i hi => by have := h i hi; rwa [(e i hi).1, (e i hi).2] at this, fun h i hi => by rw [(e i hi).1, (e i hi).2]; exact h i hi⟩

/-- All numbers of a list are from 0 to m, and none of them comes twice. -/
def goodL (zs : List Int) (m : Int) : Bool := goodTo zs m zs.length
theorem goodL_snoc (pre : List Int) (x m : Int) : goodL (pre ++ [x]) m = (goodL pre m && (inB x 0 m && !hasB pre x)) := by
  unfold goodL
  rw [List.length_append, List.length_singleton, goodTo_succ, goodTo_prefix (List.prefix_append pre [x]) m (Nat.le_refl _)]
  simp
theorem goodL_prefix {pre zs : List Int} (h : pre <+: zs) (m : Int) (hn : goodL pre m = false) : goodL zs m = false := by
  have hl := h.length_le
  unfold goodL at hn ⊢
  rw [← goodTo_prefix h m (Nat.le_refl _)] at hn
  simp only [goodTo, List.all_eq_false, List.mem_range] at hn ⊢
  obtain ⟨i, h1, h2⟩ := hn
  exact ⟨i, by omega, h2⟩
theorem hasB_app (pre : List Int) (x c : Int) : hasB (pre ++ [x]) c = (hasB pre c || (x == c)) := by
  unfold hasB
  rw [Bool.eq_iff_iff]
  simp only [List.contains_iff_mem, List.mem_append, List.mem_singleton, Bool.or_eq_true, beq_iff_eq]
  exact ⟨fun h => h.imp id Eq.symm, fun h => h.imp id Eq.symm⟩
theorem validB_in {zs : List Int} {n : Int} (h1 : 1 ≤ n) (h2 : n ≤ 5) : validB zs n = goodL zs (n - 1) := by
  have e : wrap64 (n - 1) = n - 1 := IntWalk.wrap64_in _ ⟨by omega, by omega⟩
  simp [validB, goodL, e, inB, h1, h2]
theorem validB_out {zs : List Int} {n : Int} (h : n < 1 ∨ 5 < n) : validB zs n = false := by
  have e : inB n 1 5 = false := by simp [inB]; omega
  simp [validB, e]

theorem goodTo_mem {zs : List Int} {m : Int} (h : goodTo zs m zs.length = true) : ∀ z ∈ zs, 0 ≤ z ∧ z ≤ m := by
  intro z hz
  obtain ⟨i, hi, rfl⟩ := List.getElem_of_mem hz
  simp only [goodTo, List.all_eq_true, List.mem_range] at h
  have := h i hi
  simp [inB, hi] at this
  exact this.1
theorem validB_mem {zs : List Int} {n : Int} (h : validB zs n = true) : 1 ≤ n ∧ n ≤ 5 ∧ ∀ z ∈ zs, 0 ≤ z ∧ z < n := by
  by_cases h1 : 1 ≤ n
  · by_cases h5 : n ≤ 5
    · rw [validB_in h1 h5] at h
      exact ⟨h1, h5, fun z hz => by have := goodTo_mem h z hz; omega⟩
    · rw [validB_out (.inr (by omega))] at h; cases h
  · rw [validB_out (.inl (by omega))] at h; cases h

end Go.Proofs.Ytbcemgmfkddafaa

namespace Go.Proofs.Ytbcemgmfkddafaa

theorem gB_mem {zs : List Int} {m : Int} (h : goodTo zs m zs.length = true) : ∀ z ∈ zs, 0 ≤ z ∧ z ≤ m := by
  intro z hz
  obtain ⟨i, hi, rfl⟩ := List.mem_iff_getElem.1 hz
  simp only [goodTo, List.all_eq_true, List.mem_range] at h
  have := h i hi
  simp only [inB, Bool.and_eq_true, decide_eq_true_eq, hi, List.getElem?_eq_getElem, Option.getD_some] at this
  exact this.1
theorem vB_mem {zs : List Int} {n : Int} (h : validB zs n = true) : 1 ≤ n ∧ n ≤ 5 ∧ ∀ z ∈ zs, 0 ≤ z ∧ z < n := by
  by_cases h1 : 1 ≤ n
  · by_cases h5 : n ≤ 5
    · rw [validB_in h1 h5] at h
      exact ⟨h1, h5, fun z hz => by have := gB_mem h z hz; omega⟩
    · rw [validB_out (.inr (by omega))] at h; cases h
  · rw [validB_out (.inl (by omega))] at h; cases h
theorem vB_at {zs : List Int} {n : Int} (h : validB zs n = true) (i : Nat) (hi : i < zs.length) : 0 ≤ zs[i]?.getD 0 ∧ zs[i]?.getD 0 < n :=
  (vB_mem h).2.2 _ (by simp [hi])
theorem gB_nodup {zs : List Int} {m : Int} (h : goodTo zs m zs.length = true) : zs.Nodup := by
  rw [List.Nodup, List.pairwise_iff_getElem]
  intro i j hi hj hij e
  simp only [goodTo, List.all_eq_true, List.mem_range] at h
  have := h j hj
  simp only [Bool.and_eq_true, Bool.not_eq_true', hasB] at this
  have h2 := this.2
  simp only [hj, List.getElem?_eq_getElem, Option.getD_some, List.contains_eq_mem, decide_eq_false_iff_not] at h2
  exact h2 (by rw [← e]; exact List.mem_take_iff_getElem.2 ⟨i, by omega, rfl⟩)
theorem vB_nodup {zs : List Int} {n : Int} (h : validB zs n = true) : zs.Nodup := by
  have hm := vB_mem h
  rw [validB_in hm.1 hm.2.1] at h
  exact gB_nodup h
/-- Different numbers from 0 to n-1 are at most n. -/
theorem few_of : ∀ (n : Nat) (l : List Int), l.Nodup → (∀ z ∈ l, 0 ≤ z ∧ z < (n : Int)) → l.length ≤ n
  | 0, l, _, h => by
    cases l with
    | nil => exact Nat.le_refl 0
    | cons z t => have := h z (by simp); omega
  | n + 1, l, hd, h => by
    by_cases hm : (n : Int) ∈ l
    · have h1 := few_of n (l.erase (n : Int)) (hd.erase _) (fun z hz => by
        have hz' := (hd.mem_erase_iff).1 hz
        have := h z hz'.2
        have hne := hz'.1
        omega)
      rw [List.length_erase_of_mem hm] at h1
      omega
    · have h1 := few_of n l hd (fun z hz => by
        have := h z hz
        have hne : z ≠ (n : Int) := fun e => hm (e ▸ hz)
        omega)
      omega
theorem vB_short {zs : List Int} {n : Int} (h : validB zs n = true) : (zs.length : Int) ≤ n := by
  have hm := vB_mem h
  obtain ⟨k, rfl⟩ := Int.eq_ofNat_of_zero_le (by omega : 0 ≤ n)
  have := few_of k zs (vB_nodup h) hm.2.2
  omega
/-- A list of at most n different numbers from 0 on is a ballot. -/
theorem vB_of {zs : List Int} {n : Int} (h1 : 1 ≤ n) (h5 : n ≤ 5) (hd : zs.Nodup) (hm : ∀ z ∈ zs, 0 ≤ z ∧ z < n) : validB zs n = true := by
  rw [validB_in h1 h5]
  simp only [goodL, goodTo, List.all_eq_true, List.mem_range, Bool.and_eq_true, Bool.not_eq_true']
  intro i hi
  have e : zs[i]?.getD 0 = zs[i] := by simp [hi]
  rw [e]
  refine ⟨?_, ?_⟩
  · have := hm zs[i] (List.getElem_mem hi)
    simp [inB]; omega
  · simp only [hasB, List.contains_eq_mem, decide_eq_false_iff_not]
    intro hc
    obtain ⟨j, hj, e2⟩ := List.mem_take_iff_getElem.1 hc
    have := (List.pairwise_iff_getElem.1 hd) j i (by omega) hi (by omega)
    exact this e2

/-- The marks of a ballot, when k of its candidates have theirs. -/
def ofTo (n : Nat) (zs : List Int) (k : Nat) : List Int := (List.range k).foldl (fun (acc : List Int) (i : Nat) => acc.set (zs[i]?.getD 0).toNat ((i : Int) + 1)) (List.replicate n 0)
theorem ofTo_zero (n : Nat) (zs : List Int) : ofTo n zs 0 = List.replicate n 0 := rfl
theorem ofTo_succ (n : Nat) (zs : List Int) (k : Nat) : ofTo n zs (k + 1) = (ofTo n zs k).set (zs[k]?.getD 0).toNat ((k : Int) + 1) := by
  simp [ofTo, List.range_succ]
theorem ofTo_length (n : Nat) (zs : List Int) (k : Nat) : (ofTo n zs k).length = n := by
  induction k with
  | zero => simp [ofTo]
  | succ k ih => rw [ofTo_succ, List.length_set, ih]
theorem ofTo_app (n : Nat) (pre t : List Int) (k : Nat) (h : k ≤ pre.length) : ofTo n (pre ++ t) k = ofTo n pre k := by
  induction k with
  | zero => rfl
  | succ k ih =>
    rw [ofTo_succ, ofTo_succ, ih (by omega), List.getElem?_append_left (by omega)]
def ofL (n : Nat) (zs : List Int) : List Int := ofTo n zs zs.length
theorem ofL_nil (n : Nat) : ofL n [] = List.replicate n 0 := rfl
theorem ofL_length (n : Nat) (zs : List Int) : (ofL n zs).length = n := ofTo_length _ _ _
theorem ofL_snoc (n : Nat) (pre : List Int) (x : Int) : ofL n (pre ++ [x]) = (ofL n pre).set x.toNat ((pre.length : Int) + 1) := by
  unfold ofL
  rw [List.length_append, List.length_singleton, ofTo_succ, ofTo_app _ _ _ _ (Nat.le_refl _)]
  simp
/-- What MarksOf returns. -/
def markOfL (zs : List Int) (n : Int) : List Int := if validB zs n = true then ofL n.toNat zs else []
theorem markOfL_yes {zs : List Int} {n : Int} (h : validB zs n = true) : markOfL zs n = ofL n.toNat zs := by rw [markOfL, if_pos h]
theorem markOfL_no {zs : List Int} {n : Int} (h : validB zs n = false) : markOfL zs n = [] := by rw [markOfL, h]; rfl
theorem markOfL_short (zs : List Int) (n : Int) : (markOfL zs n).length ≤ 5 := by
  cases h : validB zs n
  · simp [markOfL, h]
  · rw [markOfL_yes h, ofL_length]
    have := vB_mem h
    omega

end Go.Proofs.Ytbcemgmfkddafaa

namespace Go.Proofs.Ytbcemgmfkddafaa

/-- Lots are valid. -/
def lotsB (zs : List Int) : Bool := validB zs (zs.length : Int)
theorem lotsB_len {zs : List Int} (h : lotsB zs = true) : 1 ≤ zs.length ∧ zs.length ≤ 5 := by have := vB_mem h; omega
theorem lotsB_perm {zs ys : List Int} (h : lotsB zs = true) (hp : ys.Perm zs) : lotsB ys = true := by
  have hm := vB_mem h
  have hd := vB_nodup h
  unfold lotsB
  rw [hp.length_eq]
  exact vB_of hm.1 hm.2.1 (hp.nodup_iff.2 hd) (fun z hz => hm.2.2 z (hp.mem_iff.1 hz))

/-- The lots that a seed draws out of a list; 'f' bounds the draws. -/
def lotL : Nat → List Int → Nat → List Int
  | 0, _, _ => []
  | f + 1, rest, seed => if rest.length = 0 then [] else rest[seed % rest.length]?.getD 0 :: lotL f (rest.eraseIdx (seed % rest.length)) (seed / rest.length)
theorem lotL_nil (f seed : Nat) : lotL f [] seed = [] := by cases f <;> rfl
theorem lotL_step (f : Nat) (rest : List Int) (seed : Nat) (h : rest.length ≠ 0) : lotL (f + 1) rest seed = rest[seed % rest.length]?.getD 0 :: lotL f (rest.eraseIdx (seed % rest.length)) (seed / rest.length) := by rw [lotL, if_neg h]
theorem lotL_length : ∀ (f : Nat) (rest : List Int) (seed : Nat), rest.length ≤ f → (lotL f rest seed).length = rest.length
  | 0, rest, seed, h => by simp [lotL]; omega
  | f + 1, rest, seed, h => by
    by_cases h0 : rest.length = 0
    · rw [List.length_eq_zero_iff.1 h0, lotL_nil]
    · have hm := Nat.mod_lt seed (show 0 < rest.length by omega)
      have he : (rest.eraseIdx (seed % rest.length)).length = rest.length - 1 := by rw [List.length_eraseIdx, if_pos hm]
      rw [lotL_step f rest seed h0, List.length_cons, lotL_length f _ _ (by omega), he]; omega
theorem erase_perm : ∀ (l : List Int) (i : Nat) (h : i < l.length), (l[i] :: l.eraseIdx i).Perm l
  | [], i, h => by simp at h
  | a :: t, 0, _ => by simp
  | a :: t, i + 1, h => by
    have ih := erase_perm t i (by simpa using h)
    simp only [List.getElem_cons_succ, List.eraseIdx_cons_succ]
    exact (List.Perm.swap a _ _).trans (List.Perm.cons a ih)
theorem lotL_perm : ∀ (f : Nat) (rest : List Int) (seed : Nat), rest.length ≤ f → (lotL f rest seed).Perm rest
  | 0, rest, seed, h => by rw [List.length_eq_zero_iff.1 (show rest.length = 0 by omega)]; exact List.Perm.refl _
  | f + 1, rest, seed, h => by
    by_cases h0 : rest.length = 0
    · rw [List.length_eq_zero_iff.1 h0, lotL_nil]
    · have hm := Nat.mod_lt seed (show 0 < rest.length by omega)
      have he : (rest.eraseIdx (seed % rest.length)).length = rest.length - 1 := by rw [List.length_eraseIdx, if_pos hm]
      rw [lotL_step f rest seed h0]
      have h1 := lotL_perm f (rest.eraseIdx (seed % rest.length)) (seed / rest.length) (by omega)
      have e : rest[seed % rest.length]?.getD 0 = rest[seed % rest.length] := by simp [hm]
      rw [e]
      exact (List.Perm.cons _ h1).trans (erase_perm _ _ hm)

/-- The factorial. -/
def factN : Nat → Nat
  | 0 => 1
  | n + 1 => (n + 1) * factN n
/-- **Seeds repeat.** -/
theorem lotL_more : ∀ (f : Nat) (rest : List Int) (seed : Nat), rest.length ≤ f → lotL f rest (seed + factN rest.length) = lotL f rest seed
  | 0, rest, seed, h => rfl
  | f + 1, rest, seed, h => by
    by_cases h0 : rest.length = 0
    · rw [List.length_eq_zero_iff.1 h0, lotL_nil, lotL_nil]
    · obtain ⟨n, hn⟩ : ∃ n, rest.length = n + 1 := ⟨rest.length - 1, by omega⟩
      have hm := Nat.mod_lt seed (show 0 < rest.length by omega)
      have he : (rest.eraseIdx (seed % rest.length)).length = n := by rw [List.length_eraseIdx, if_pos hm]; omega
      have e1 : (seed + factN rest.length) % rest.length = seed % rest.length := by rw [hn, factN, Nat.add_mul_mod_self_left]
      have e2 : (seed + factN rest.length) / rest.length = seed / rest.length + factN n := by rw [hn, factN, Nat.add_mul_div_left _ _ (by omega)]
      rw [lotL_step f rest _ h0, lotL_step f rest _ h0, e1, e2]
      have := lotL_more f (rest.eraseIdx (seed % rest.length)) (seed / rest.length) (by omega)
      rw [he] at this
      rw [this]
/-- All candidates in ascending order. -/
def fromZero (n : Nat) : List Int := (List.range n).map fun (i : Nat) => (i : Int)
theorem fromZero_length (n : Nat) : (fromZero n).length = n := by simp [fromZero]
theorem fromZero_succ (n : Nat) : fromZero (n + 1) = fromZero n ++ [(n : Int)] := by simp [fromZero, List.range_succ]
theorem fromZero_lots {n : Nat} (h1 : 1 ≤ n) (h5 : n ≤ 5) : lotsB (fromZero n) = true := by
  unfold lotsB
  rw [fromZero_length]
  refine vB_of (by omega) (by omega) ?_ (fun z hz => ?_)
  · unfold fromZero List.Nodup
    rw [List.pairwise_map]
    exact List.Pairwise.imp (fun {a b} hab e => hab (by omega)) List.nodup_range
  · obtain ⟨i, hi, rfl⟩ := List.mem_map.1 hz
    have := List.mem_range.1 hi
    omega
/-- What LotsOf returns for n candidates. -/
def lotsOf (n seed : Nat) : List Int := lotL n (fromZero n) seed
theorem lotsOf_valid {n seed : Nat} (h1 : 1 ≤ n) (h5 : n ≤ 5) : lotsB (lotsOf n seed) = true := lotsB_perm (fromZero_lots h1 h5) (lotL_perm n _ seed (by rw [fromZero_length]; exact Nat.le_refl _))
theorem lotsOf_length (n seed : Nat) : (lotsOf n seed).length = n := by rw [lotsOf, lotL_length _ _ _ (by rw [fromZero_length]; exact Nat.le_refl _), fromZero_length]
theorem lotsOf_more (n seed : Nat) : lotsOf n (seed + factN n) = lotsOf n seed := by
  have := lotL_more n (fromZero n) seed (by rw [fromZero_length]; exact Nat.le_refl _)
  rwa [fromZero_length] at this
theorem lotsOf_mod (n seed : Nat) : lotsOf n seed = lotsOf n (seed % factN n) := by
  have h : ∀ q, lotsOf n (seed % factN n + q * factN n) = lotsOf n (seed % factN n) := fun q => by
    induction q with
    | zero => simp
    | succ q ih => rw [Nat.succ_mul, ← Nat.add_assoc, lotsOf_more, ih]
  have := h (seed / factN n)
  rwa [Nat.mul_comm, Nat.mod_add_div] at this
theorem lotsOf_head {n seed : Nat} (h1 : 1 ≤ n) : (lotsOf n seed)[0]?.getD 0 = ((seed % n : Nat) : Int) := by
  obtain ⟨k, rfl⟩ : ∃ k, n = k + 1 := ⟨n - 1, by omega⟩
  unfold lotsOf
  rw [lotL_step _ _ _ (by rw [fromZero_length]; omega), fromZero_length]
  have hm := Nat.mod_lt seed (show 0 < k + 1 by omega)
  simp [fromZero, hm]
/-- **Each order of two lots has a seed**: for each drawn order, one less than 120 has the first two exchanged. -/
theorem lots_swap_all : ∀ n, n < 6 → 2 ≤ n → ∀ s, s < factN n → ∃ q, q < 120 ∧ lotsOf n q = ((lotsOf n s)[1]?.getD 0) :: ((lotsOf n s)[0]?.getD 0) :: (lotsOf n s).drop 2 := by
  decide +kernel

/-- The first of the lots for whom 'some' is true, or -1. -/
def pickL : List Int → List Bool → Int
  | [], _ => -1
  | z :: t, L => if L[z.toNat]?.getD false = true then z else pickL t L

/-- The seal. -/
def sealV (seed secret : Int) : Int := (seed * 7919 + secret * 104729 + 12345) % 1000003
theorem small_mult {d c k m : Int} (hc : k * c = 1 + 1000003 * m) (hd : -999 ≤ d ∧ d ≤ 999) (h : (1000003 : Int) ∣ d * c) : d = 0 := by
  obtain ⟨q, hq⟩ := h
  have h1 : d = 1000003 * (k * q - m * d) := by
    have h2 : k * (d * c) = k * (1000003 * q) := by rw [hq]
    have h3 : k * (d * c) = d * (k * c) := by rw [← Int.mul_assoc, Int.mul_comm k d, Int.mul_assoc]
    rw [h3, hc, Int.mul_add, Int.mul_one] at h2
    have h4 : d * (1000003 * m) = 1000003 * (m * d) := by rw [Int.mul_left_comm, Int.mul_comm d m]
    have h5 : k * (1000003 * q) = 1000003 * (k * q) := by rw [Int.mul_left_comm]
    rw [h4, h5] at h2
    rw [Int.mul_sub]
    omega
  obtain ⟨r, hr⟩ : ∃ r, k * q - m * d = r := ⟨_, rfl⟩
  rw [hr] at h1
  omega
theorem lin_one (u v z k : Int) : u + z + k - (v + z + k) = u - v := by omega
theorem lin_two (u v z k : Int) : z + u + k - (z + v + k) = u - v := by omega
/-- **A sealed seed cannot be changed.** -/
theorem seal_seed {a b c : Int} (ha : 0 ≤ a ∧ a ≤ 999) (hb : 0 ≤ b ∧ b ≤ 999) (h : a ≠ b) : sealV a c ≠ sealV b c := by
  intro e
  have h1 := Int.dvd_of_emod_eq_zero (Int.emod_eq_emod_iff_emod_sub_eq_zero.1 e)
  have e2 := lin_one (a * 7919) (b * 7919) (c * 104729) 12345
  have e3 := e2.trans (Int.sub_mul a b 7919).symm
  have h2 : (1000003 : Int) ∣ (a - b) * 7919 := e3 ▸ h1
  clear e e2 e3 h1
  exact h (Int.sub_eq_zero.1 (small_mult (k := 658671) (m := 5216) (by decide) (by clear h2; omega) h2))
theorem seal_secret {a b c : Int} (ha : 0 ≤ a ∧ a ≤ 999) (hb : 0 ≤ b ∧ b ≤ 999) (h : a ≠ b) : sealV c a ≠ sealV c b := by
  intro e
  have h1 := Int.dvd_of_emod_eq_zero (Int.emod_eq_emod_iff_emod_sub_eq_zero.1 e)
  have e2 := lin_two (a * 104729) (b * 104729) (c * 7919) 12345
  have e3 := e2.trans (Int.sub_mul a b 104729).symm
  have h2 : (1000003 : Int) ∣ (a - b) * 104729 := e3 ▸ h1
  clear e e2 e3 h1
  exact h (Int.sub_eq_zero.1 (small_mult (k := 404531) (m := 42366) (by decide) (by clear h2; omega) h2))

end Go.Proofs.Ytbcemgmfkddafaa

namespace Go.Proofs.Ytbcemgmfkddafaa

/-- The letters of candidates. -/
def txtOf (zs : List Int) : ByteArray := strOfNums (zs.map fun z => 97 + z)
theorem txtOf_size (zs : List Int) : (txtOf zs).size = zs.length := by simp [txtOf, strOfNums_size]
theorem txtOf_snoc (zs : List Int) (z : Int) : txtOf (zs ++ [z]) = txtOf zs ++ txtOf [z] := by
  apply ByteArray.ext
  simp [txtOf, strOfNums]
def txtB (zs : List Int) : ByteArray := if validB zs 5 = true then txtOf zs else ByteArray.empty
theorem letter_of (c : Nat) (h : c < 5) : (ByteArray.mk #[97, 98, 99, 100, 101]).extract c (c + 1) = txtOf [(c : Int)] := by
  have e : c = 0 ∨ c = 1 ∨ c = 2 ∨ c = 3 ∨ c = 4 := by omega
  rcases e with rfl | rfl | rfl | rfl | rfl <;> (apply ByteArray.ext; decide)
theorem take_snoc (zs : List Int) (k : Nat) (h : k < zs.length) : zs.take (k + 1) = zs.take k ++ [zs[k]?.getD 0] := by
  rw [List.take_succ_eq_append_getElem h]; simp [h]

/-- The numbers of a text's letters. -/
def numsL (l : List UInt8) : List Int := l.map fun b => (b.toNat : Int) - 97
def nums (s : ByteArray) : List Int := numsL s.data.toList
theorem nums_length (s : ByteArray) : (nums s).length = s.size := by simp only [nums, numsL, List.length_map, Array.length_toList]; rfl
theorem nums_at (s : ByteArray) (k : Nat) (h : k < s.size) : (nums s)[k]?.getD 0 = (s[k].toNat : Int) - 97 := by
  have h' : k < s.data.toList.length := by rw [Array.length_toList]; exact h
  simp only [nums, numsL, List.getElem?_map, List.getElem?_eq_getElem h', Option.map_some, Option.getD_some]
  rfl

/-- The ballot of a text. -/
def parseL (s : ByteArray) : List Int := if validB (nums s) 5 = true then nums s else []
theorem nums_step (s : ByteArray) (k : Nat) (h : k < s.size) : (nums s).take (k + 1) = (nums s).take k ++ [(s[k].toNat : Int) - 97] := by
  rw [take_snoc _ k (by rw [nums_length]; exact h), nums_at s k h]

theorem parseL_short (s : ByteArray) : (parseL s).length ≤ 5 := by
  unfold parseL
  cases h : validB (nums s) 5
  · simp
  · simpa using (by have := vB_short h; omega)

theorem nums_txt {zs : List Int} (h : ∀ z ∈ zs, 0 ≤ z ∧ z < 5) : nums (txtOf zs) = zs := by
  show (((zs.map fun z => 97 + z).map fun n => UInt8.ofNat n.toNat).map fun b => (b.toNat : Int) - 97) = zs
  rw [List.map_map, List.map_map]
  conv => rhs; rw [← List.map_id zs]
  apply List.map_congr_left
  intro z hz
  have := h z hz
  simp only [Function.comp, UInt8.toNat_ofNat', id]
  omega
theorem txtB_valid {zs : List Int} (hv : validB zs 5 = true) : txtB zs = txtOf zs := by simp [txtB, hv]
theorem txtB_size {zs : List Int} (hv : validB zs 5 = true) : (txtB zs).size = zs.length := by rw [txtB_valid hv, txtOf_size]
theorem txtB_nums {zs : List Int} (hv : validB zs 5 = true) : nums (txtB zs) = zs := by rw [txtB_valid hv, nums_txt (vB_mem hv).2.2]
theorem txtB_parse {zs : List Int} (hv : validB zs 5 = true) : parseL (txtB zs) = zs := by simp [parseL, txtB_nums hv, hv]
theorem txtB_ok {zs : List Int} (hv : validB zs 5 = true) : validB (nums (txtB zs)) 5 = true := by rw [txtB_nums hv, hv]
theorem txt_nums (s : ByteArray) : txtOf (nums s) = s := by
  apply ByteArray.ext
  apply Array.ext'
  show (((s.data.toList.map fun b => (b.toNat : Int) - 97).map fun z => 97 + z).map fun n => UInt8.ofNat n.toNat) = s.data.toList
  rw [List.map_map, List.map_map]
  conv => rhs; rw [← List.map_id s.data.toList]
  apply List.map_congr_left
  intro b _
  simp only [Function.comp, id]
  have e : (97 + ((b.toNat : Int) - 97)).toNat = b.toNat := by omega
  rw [e]
  exact UInt8.ofNat_toNat
theorem txtB_nums' {s : ByteArray} (hv : validB (nums s) 5 = true) : txtB (nums s) = s := by rw [txtB_valid hv, txt_nums]
theorem parseL_ok {s : ByteArray} (hv : validB (nums s) 5 = true) : parseL s = nums s := by simp [parseL, hv]
theorem parseL_no {s : ByteArray} (hv : validB (nums s) 5 = false) : parseL s = [] := by simp [parseL, hv]
theorem nums_append (s t : ByteArray) : nums (s ++ t) = nums s ++ nums t := by
  simp [nums, numsL, ByteArray.data_append]

end Go.Proofs.Ytbcemgmfkddafaa

namespace Go.Proofs.Ytbcemgmfkddafaa

/-- The order of texts, byte by byte. -/
theorem bl_irrefl : ∀ x : List UInt8, Op.bytesLess x x = false
  | [] => rfl
  | a :: x => by simp [Op.bytesLess, bl_irrefl x]
theorem bl_trans : ∀ x y z : List UInt8, Op.bytesLess x y = true → Op.bytesLess y z = true → Op.bytesLess x z = true
  | _, _, [], _, h => by simp [Op.bytesLess] at h
  | [], _, _ :: _, _, _ => rfl
  | _ :: _, [], _ :: _, h, _ => by simp [Op.bytesLess] at h
  | a :: x, b :: y, c :: z, h1, h2 => by
    simp only [Op.bytesLess, Bool.or_eq_true, decide_eq_true_eq, Bool.and_eq_true, beq_iff_eq] at h1 h2 ⊢
    rcases h1 with h1 | ⟨rfl, h1⟩
    · rcases h2 with h2 | ⟨rfl, h2⟩
      · exact .inl (UInt8.lt_trans h1 h2)
      · exact .inl h1
    · rcases h2 with h2 | ⟨rfl, h2⟩
      · exact .inl h2
      · exact .inr ⟨rfl, bl_trans x y z h1 h2⟩
theorem bl_tri : ∀ x y : List UInt8, Op.bytesLess x y = true ∨ x = y ∨ Op.bytesLess y x = true
  | [], [] => .inr (.inl rfl)
  | [], _ :: _ => .inl rfl
  | _ :: _, [] => .inr (.inr rfl)
  | a :: x, b :: y => by
    simp only [Op.bytesLess, Bool.or_eq_true, decide_eq_true_eq, Bool.and_eq_true, beq_iff_eq, List.cons.injEq]
    by_cases h : a < b
    · exact .inl (.inl h)
    · by_cases h' : b < a
      · exact .inr (.inr (.inl h'))
      · have e : a = b := by
          apply UInt8.toNat_inj.1
          rw [UInt8.lt_iff_toNat_lt] at h h'
          omega
        subst e
        rcases bl_tri x y with g | g | g
        · exact .inl (.inr ⟨rfl, g⟩)
        · exact .inr (.inl ⟨rfl, g⟩)
        · exact .inr (.inr (.inr ⟨rfl, g⟩))

def tl (a b : ByteArray) : Bool := Op.bytesLess a.toList b.toList
theorem tl_irrefl (a : ByteArray) : tl a a = false := bl_irrefl _
theorem tl_trans {a b c : ByteArray} (h : tl a b = true) (h' : tl b c = true) : tl a c = true := bl_trans _ _ _ h h'
theorem tl_ne {a b : ByteArray} (h : tl a b = true) : a ≠ b := by rintro rfl; rw [tl_irrefl] at h; cases h
theorem tl_asymm {a b : ByteArray} (h : tl a b = true) : tl b a = false := by
  cases h2 : tl b a with
  | false => rfl
  | true => have := tl_trans h h2; rw [tl_irrefl] at this; cases this
theorem list_text {a b : ByteArray} (h : a.toList = b.toList) : a = b := by
  rw [ByteArray.toList_eq, ByteArray.toList_eq] at h
  exact ByteArray.ext (Array.ext' h)
theorem tl_tri (a b : ByteArray) : tl a b = true ∨ a = b ∨ tl b a = true := by
  rcases bl_tri a.toList b.toList with h | h | h
  · exact .inl h
  · exact .inr (.inl (list_text h))
  · exact .inr (.inr h)
theorem eq_text (a b : ByteArray) : (a.toList == b.toList) = decide (a = b) := by
  by_cases h : a = b
  · subst h; simp
  · have : ¬ a.toList = b.toList := fun e => h (list_text e)
    simp [h, this]

abbrev Pl := ByteArray × Int
def tAt (ps : List Pl) (i : Nat) : ByteArray := (ps[i]?.getD (ByteArray.empty, 0)).1
def mAt (ps : List Pl) (i : Nat) : Int := (ps[i]?.getD (ByteArray.empty, 0)).2
/-- A pile is valid. -/
def pileB (t : ByteArray) (m : Int) : Bool := validB (nums t) 5 && inB m 1 99
theorem pileB_iff (t : ByteArray) (m : Int) : pileB t m = true ↔ validB (nums t) 5 = true ∧ 1 ≤ m ∧ m ≤ 99 := by simp [pileB, inB]
/-- The first k piles are valid, and ascend. -/
def ascTo (ps : List Pl) (k : Nat) : Bool := (List.range k).all fun i => pileB (tAt ps i) (mAt ps i) && (decide (i = 0) || tl (tAt ps (i - 1)) (tAt ps i))
theorem ascTo_succ (ps : List Pl) (k : Nat) : ascTo ps (k + 1) = (ascTo ps k && (pileB (tAt ps k) (mAt ps k) && (decide (k = 0) || tl (tAt ps (k - 1)) (tAt ps k)))) := by simp [ascTo, List.range_succ]
theorem ascTo_no {ps : List Pl} {k n : Nat} (h : ascTo ps (k + 1) = false) (hk : k < n) : ascTo ps n = false := by
  simp only [ascTo, List.all_eq_false, List.mem_range] at h ⊢
  obtain ⟨i, h1, h2⟩ := h
  exact ⟨i, by omega, h2⟩
/-- Piles are valid. -/
def pilesB (ps : List Pl) : Bool := ascTo ps ps.length && decide ((ps.length : Int) ≤ 12)

def Asc (ps : List Pl) : Prop := ps.Pairwise fun p q => tl p.1 q.1 = true
theorem asc_of {ps : List Pl} (h : ∀ i, i + 1 < ps.length → tl (tAt ps i) (tAt ps (i + 1)) = true) : Asc ps := by
  have far : ∀ d i, i + d + 1 < ps.length → tl (tAt ps i) (tAt ps (i + d + 1)) = true := by
    intro d
    induction d with
    | zero => intro i hi; exact h i hi
    | succ d ih => intro i hi; exact tl_trans (ih i (by omega)) (h (i + d + 1) (by omega))
  unfold Asc
  rw [List.pairwise_iff_getElem]
  intro i j hi hj hij
  have := far (j - i - 1) i (by omega)
  rw [show i + (j - i - 1) + 1 = j from by omega] at this
  simpa [tAt, hi, hj] using this
theorem asc_at {ps : List Pl} (h : Asc ps) {i j : Nat} (hij : i < j) (hj : j < ps.length) : tl (tAt ps i) (tAt ps j) = true := by
  have := (List.pairwise_iff_getElem.1 h) i j (by omega) hj hij
  simpa [tAt, hj, show i < ps.length from by omega] using this
theorem pilesB_iff (ps : List Pl) : pilesB ps = true ↔ (∀ p ∈ ps, pileB p.1 p.2 = true) ∧ Asc ps ∧ ps.length ≤ 12 := by
  simp only [pilesB, ascTo, Bool.and_eq_true, List.all_eq_true, List.mem_range, Bool.or_eq_true, decide_eq_true_eq]
  constructor
  · rintro ⟨h, hl⟩
    refine ⟨fun p hp => ?_, asc_of fun i hi => ?_, by omega⟩
    · obtain ⟨i, hi, rfl⟩ := List.mem_iff_getElem.1 hp
      have := (h i hi).1
      simpa [tAt, mAt, hi] using this
    · have := (h (i + 1) hi).2
      simpa using this
  · rintro ⟨h1, h2, h3⟩
    refine ⟨fun i hi => ⟨?_, ?_⟩, by omega⟩
    · have := h1 _ (List.getElem_mem hi)
      simpa [tAt, mAt, hi] using this
    · by_cases e : i = 0
      · exact .inl e
      · exact .inr (asc_at h2 (by omega) hi)

/-- How many ballots a text has. -/
def tot : List Pl → ByteArray → Int
  | [], _ => 0
  | p :: ps, u => (if p.1 = u then p.2 else 0) + tot ps u
theorem tot_app (a b : List Pl) (u : ByteArray) : tot (a ++ b) u = tot a u + tot b u := by
  induction a with
  | nil => simp [tot]
  | cons p a ih => simp only [List.cons_append, tot, ih]; omega
theorem tot_none {ps : List Pl} {u : ByteArray} (h : ∀ p ∈ ps, p.1 ≠ u) : tot ps u = 0 := by
  induction ps with
  | nil => rfl
  | cons p ps ih =>
    rw [tot, if_neg (h p (by simp)), ih (fun q hq => h q (by simp [hq]))]; rfl
theorem asc_cons {p : Pl} {ps : List Pl} (h : Asc (p :: ps)) : Asc ps ∧ ∀ q ∈ ps, tl p.1 q.1 = true := by
  unfold Asc at h
  rw [List.pairwise_cons] at h
  exact ⟨h.2, h.1⟩
theorem tot_head {p : Pl} {ps : List Pl} (h : Asc (p :: ps)) : tot (p :: ps) p.1 = p.2 := by
  rw [tot, if_pos rfl, tot_none (fun q hq => (tl_ne ((asc_cons h).2 q hq)).symm)]; omega
theorem tot_mem {ps : List Pl} (h : Asc ps) : ∀ p ∈ ps, tot ps p.1 = p.2 := by
  induction ps with
  | nil => intro p hp; cases hp
  | cons q ps ih =>
    intro p hp
    obtain ⟨h1, h2⟩ := asc_cons h
    rcases List.mem_cons.1 hp with e | hp
    · subst e; exact tot_head h
    · rw [tot, if_neg (tl_ne (h2 p hp)), ih h1 p hp]; omega
/-- Ascending piles with as many ballots of each text are the same. -/
theorem piles_ext : ∀ {a b : List Pl}, Asc a → Asc b → (∀ p ∈ a, 1 ≤ p.2) → (∀ p ∈ b, 1 ≤ p.2) → (∀ u, tot a u = tot b u) → a = b
  | [], [], _, _, _, _, _ => rfl
  | [], q :: b, _, hb, _, pb, h => by
    have := h q.1
    rw [tot_head hb] at this
    have := pb q (by simp)
    simp [tot] at *
    omega
  | p :: a, [], ha, _, pa, _, h => by
    have := h p.1
    rw [tot_head ha] at this
    have := pa p (by simp)
    simp [tot] at *
    omega
  | p :: a, q :: b, ha, hb, pa, pb, h => by
    have hp := pa p (by simp)
    have hq := pb q (by simp)
    rcases tl_tri p.1 q.1 with g | g | g
    · have h1 := h p.1
      rw [tot_head ha, tot_none (fun r hr => ?_)] at h1
      · omega
      · rcases List.mem_cons.1 hr with e | hr
        · subst e; exact (tl_ne g).symm
        · exact (tl_ne (tl_trans g ((asc_cons hb).2 r hr))).symm
    · have h1 := h p.1
      rw [tot_head ha, g, tot_head hb] at h1
      have e : p = q := Prod.ext g h1
      subst e
      have := piles_ext (asc_cons ha).1 (asc_cons hb).1 (fun r hr => pa r (by simp [hr])) (fun r hr => pb r (by simp [hr])) (fun u => by have := h u; simp only [tot] at this; omega)
      rw [this]
    · have h1 := h q.1
      rw [tot_head hb, tot_none (fun r hr => ?_)] at h1
      · omega
      · rcases List.mem_cons.1 hr with e | hr
        · subst e; exact (tl_ne g).symm
        · exact (tl_ne (tl_trans g ((asc_cons ha).2 r hr))).symm

/-- Ballots are put to their pile, or a new one. -/
def putL : List Pl → ByteArray → Int → List Pl
  | [], t, m => [(t, m)]
  | p :: ps, t, m => if tl p.1 t = true then p :: putL ps t m else if p.1 = t then (t, p.2 + m) :: ps else (t, m) :: p :: ps
theorem tot_put (ps : List Pl) (t : ByteArray) (m : Int) (u : ByteArray) : tot (putL ps t m) u = tot ps u + (if t = u then m else 0) := by
  induction ps with
  | nil => simp [putL, tot]
  | cons p ps ih =>
    unfold putL
    split
    · simp only [tot, ih]; omega
    · split
      · rename_i h1 h2
        simp only [tot, h2]
        split <;> omega
      · simp only [tot]; omega
theorem put_texts {ps : List Pl} {t : ByteArray} {m : Int} : ∀ q ∈ putL ps t m, q.1 = t ∨ ∃ p ∈ ps, p.1 = q.1 := by
  induction ps with
  | nil => intro q hq; simp [putL] at hq; exact .inl (by rw [hq])
  | cons p ps ih =>
    intro q hq
    unfold putL at hq
    split at hq
    · rcases List.mem_cons.1 hq with e | hq
      · exact .inr ⟨p, by simp, by rw [e]⟩
      · rcases ih q hq with e | ⟨r, hr, e⟩
        · exact .inl e
        · exact .inr ⟨r, by simp [hr], e⟩
    · split at hq
      · rcases List.mem_cons.1 hq with e | hq
        · exact .inl (by rw [e])
        · exact .inr ⟨q, by simp [hq], rfl⟩
      · rcases List.mem_cons.1 hq with e | hq
        · exact .inl (by rw [e])
        · exact .inr ⟨q, hq, rfl⟩
theorem asc_put {ps : List Pl} (h : Asc ps) (t : ByteArray) (m : Int) : Asc (putL ps t m) := by
  induction ps with
  | nil => simp [putL, Asc]
  | cons p ps ih =>
    obtain ⟨h1, h2⟩ := asc_cons h
    unfold putL
    split
    · rename_i hl
      refine List.pairwise_cons.2 ⟨fun q hq => ?_, ih h1⟩
      rcases put_texts q hq with e | ⟨r, hr, e⟩
      · rw [e]; exact hl
      · rw [← e]; exact h2 r hr
    · rename_i hl
      split
      · rename_i e
        subst e
        exact List.pairwise_cons.2 ⟨h2, h1⟩
      · rename_i e
        have hg : tl t p.1 = true := by
          rcases tl_tri p.1 t with g | g | g
          · exact absurd g hl
          · exact absurd g e
          · exact g
        refine List.pairwise_cons.2 ⟨fun q hq => ?_, h⟩
        rcases List.mem_cons.1 hq with e2 | hq
        · subst e2; exact hg
        · exact tl_trans hg (h2 q hq)
theorem pos_put {ps : List Pl} {t : ByteArray} {m : Int} (h : ∀ p ∈ ps, 1 ≤ p.2) (hm : 1 ≤ m) : ∀ q ∈ putL ps t m, 1 ≤ q.2 := by
  induction ps with
  | nil => intro q hq; simp [putL] at hq; rw [hq]; exact hm
  | cons p ps ih =>
    intro q hq
    have hp := h p (by simp)
    unfold putL at hq
    split at hq
    · rcases List.mem_cons.1 hq with e | hq
      · rw [e]; exact hp
      · exact ih (fun r hr => h r (by simp [hr])) q hq
    · split at hq
      · rcases List.mem_cons.1 hq with e | hq
        · rw [e]; show 1 ≤ p.2 + m; omega
        · exact h q (by simp [hq])
      · rcases List.mem_cons.1 hq with e | hq
        · rw [e]; exact hm
        · exact h q hq
/-- What was there is there still, and no fewer. -/
theorem put_keeps {ps : List Pl} {t : ByteArray} {m : Int} (hm : 0 ≤ m) : ∀ p ∈ ps, ∃ q ∈ putL ps t m, q.1 = p.1 ∧ p.2 ≤ q.2 := by
  induction ps with
  | nil => intro p hp; cases hp
  | cons r ps ih =>
    intro p hp
    unfold putL
    split
    · rcases List.mem_cons.1 hp with e | hp
      · exact ⟨r, by simp, by rw [e], by rw [e]; exact Int.le_refl _⟩
      · obtain ⟨q, h1, h2⟩ := ih p hp
        exact ⟨q, by simp [h1], h2⟩
    · split
      · rename_i e1
        rcases List.mem_cons.1 hp with e | hp
        · subst e; exact ⟨(t, p.2 + m), by simp, e1.symm, by show p.2 ≤ p.2 + m; omega⟩
        · exact ⟨p, by simp [hp], rfl, Int.le_refl _⟩
      · exact ⟨p, List.mem_cons_of_mem _ hp, rfl, Int.le_refl _⟩
theorem put_longer (ps : List Pl) (t : ByteArray) (m : Int) : ps.length ≤ (putL ps t m).length ∧ (putL ps t m).length ≤ ps.length + 1 := by
  induction ps with
  | nil => simp [putL]
  | cons p ps ih =>
    unfold putL
    split
    · simp; omega
    · split <;> simp

/-- All ballots. -/
def sumL (ps : List Pl) : Int := ps.foldr (fun p s => p.2 + s) 0
theorem sumL_cons (p : Pl) (ps : List Pl) : sumL (p :: ps) = p.2 + sumL ps := rfl
theorem sumL_put (ps : List Pl) (t : ByteArray) (m : Int) : sumL (putL ps t m) = sumL ps + m := by
  induction ps with
  | nil => simp [putL, sumL]
  | cons p ps ih =>
    unfold putL
    split
    · rw [sumL_cons, ih, sumL_cons]; omega
    · split
      · simp only [sumL_cons]; omega
      · simp only [sumL_cons]; omega

/-- Piles are put to others. -/
def mergeL (a : List Pl) : List Pl → List Pl
  | [] => a
  | p :: b => mergeL (putL a p.1 p.2) b
theorem mergeL_app (a b c : List Pl) : mergeL a (b ++ c) = mergeL (mergeL a b) c := by
  induction b generalizing a with
  | nil => rfl
  | cons p b ih => exact ih _
theorem mergeL_snoc (a b : List Pl) (p : Pl) : mergeL a (b ++ [p]) = putL (mergeL a b) p.1 p.2 := by rw [mergeL_app]; rfl
theorem tot_merge (a b : List Pl) (u : ByteArray) : tot (mergeL a b) u = tot a u + tot b u := by
  induction b generalizing a with
  | nil => simp [mergeL, tot]
  | cons p b ih => rw [mergeL, ih, tot_put, tot]; omega
theorem asc_merge {a : List Pl} (h : Asc a) (b : List Pl) : Asc (mergeL a b) := by
  induction b generalizing a with
  | nil => exact h
  | cons p b ih => exact ih (asc_put h _ _)
theorem pos_merge {a b : List Pl} (h : ∀ p ∈ a, 1 ≤ p.2) (hb : ∀ p ∈ b, 1 ≤ p.2) : ∀ q ∈ mergeL a b, 1 ≤ q.2 := by
  induction b generalizing a with
  | nil => exact h
  | cons p b ih => exact ih (pos_put h (hb p (by simp))) (fun q hq => hb q (by simp [hq]))
theorem merge_keeps {a b : List Pl} (hb : ∀ p ∈ b, 1 ≤ p.2) : ∀ p ∈ a, ∃ q ∈ mergeL a b, q.1 = p.1 ∧ p.2 ≤ q.2 := by
  induction b generalizing a with
  | nil => intro p hp; exact ⟨p, hp, rfl, Int.le_refl _⟩
  | cons r b ih =>
    intro p hp
    obtain ⟨q, h1, h2, h3⟩ := put_keeps (t := r.1) (m := r.2) (by have := hb r (by simp); omega) p hp
    obtain ⟨s, g1, g2, g3⟩ := ih (fun q hq => hb q (by simp [hq])) q h1
    exact ⟨s, g1, by rw [g2, h2], by omega⟩
theorem merge_longer (a b : List Pl) : a.length ≤ (mergeL a b).length ∧ (mergeL a b).length ≤ a.length + b.length := by
  induction b generalizing a with
  | nil => simp [mergeL]
  | cons p b ih =>
    have h1 := put_longer a p.1 p.2
    have h2 := ih (putL a p.1 p.2)
    rw [mergeL, List.length_cons]; omega
theorem sumL_merge (a b : List Pl) : sumL (mergeL a b) = sumL a + sumL b := by
  induction b generalizing a with
  | nil => simp [mergeL, sumL]
  | cons p b ih => rw [mergeL, ih, sumL_put, sumL_cons]; omega
theorem pilesB_pos {a : List Pl} (h : pilesB a = true) : Asc a ∧ (∀ p ∈ a, 1 ≤ p.2) ∧ (∀ p ∈ a, p.2 ≤ 99) ∧ (∀ p ∈ a, validB (nums p.1) 5 = true) ∧ a.length ≤ 12 := by
  obtain ⟨h1, h2, h3⟩ := (pilesB_iff a).1 h
  exact ⟨h2, fun p hp => ((pileB_iff _ _).1 (h1 p hp)).2.1, fun p hp => ((pileB_iff _ _).1 (h1 p hp)).2.2, fun p hp => ((pileB_iff _ _).1 (h1 p hp)).1, h3⟩
/-- **It returns the same for both exchanged.** -/
theorem merge_comm {a b : List Pl} (ha : pilesB a = true) (hb : pilesB b = true) : mergeL a b = mergeL b a := by
  obtain ⟨a1, a2, _⟩ := pilesB_pos ha
  obtain ⟨b1, b2, _⟩ := pilesB_pos hb
  exact piles_ext (asc_merge a1 b) (asc_merge b1 a) (pos_merge a2 b2) (pos_merge b2 a2) (fun u => by rw [tot_merge, tot_merge]; omega)
/-- What leads to valid piles is valid. -/
theorem valid_before {a b : List Pl} (h : pilesB (mergeL a b) = true) (ha : Asc a) (pa : ∀ p ∈ a, 1 ≤ p.2) (pb : ∀ p ∈ b, 1 ≤ p.2) : pilesB a = true := by
  obtain ⟨_, _, h3, h4, h5⟩ := pilesB_pos h
  refine (pilesB_iff a).2 ⟨fun p hp => ?_, ha, by have := (merge_longer a b).1; omega⟩
  obtain ⟨q, g1, g2, g3⟩ := merge_keeps pb p hp
  refine (pileB_iff _ _).2 ⟨by rw [← g2]; exact h4 q g1, pa p hp, by have := h3 q g1; omega⟩
/-- Ballots that are added one after the other. -/
theorem put_two {a : List Pl} (h : pilesB a = true) (t : ByteArray) (k n : Int) (hk : 1 ≤ k) (hn : 1 ≤ n) : putL (putL a t k) t n = putL a t (k + n) := by
  obtain ⟨a1, a2, _⟩ := pilesB_pos h
  refine piles_ext (asc_put (asc_put a1 _ _) _ _) (asc_put a1 _ _) (pos_put (pos_put a2 hk) hn) (pos_put a2 (by omega)) (fun u => ?_)
  rw [tot_put, tot_put, tot_put]
  split <;> omega
/-- Parts of valid piles are valid. -/
theorem piles_sub {a b : List Pl} (h : pilesB a = true) (hs : List.Sublist b a) : pilesB b = true := by
  obtain ⟨h1, h2, h3⟩ := (pilesB_iff a).1 h
  exact (pilesB_iff b).2 ⟨fun p hp => h1 p (hs.subset hp), List.Pairwise.sublist hs h2, by have := hs.length_le; omega⟩
/-- A pile twice is invalid. -/
theorem piles_twice {a : List Pl} (k : Nat) (hk : k < a.length) : pilesB (a.take (k + 1) ++ a.drop k) = false := by
  cases h : pilesB (a.take (k + 1) ++ a.drop k) with
  | false => rfl
  | true =>
    obtain ⟨h1, _⟩ := pilesB_pos h
    have hl : (a.take (k + 1) ++ a.drop k).length = a.length + 1 := by simp; omega
    have := asc_at h1 (i := k) (j := k + 1) (by omega) (by omega)
    have e1 : tAt (a.take (k + 1) ++ a.drop k) k = tAt a k := by
      unfold tAt
      rw [List.getElem?_append_left (by simp; omega), List.getElem?_take_of_lt (by omega)]
    have e2 : tAt (a.take (k + 1) ++ a.drop k) (k + 1) = tAt a k := by
      unfold tAt
      have hlt : (a.take (k + 1)).length = k + 1 := by simp; omega
      rw [List.getElem?_append_right (by omega), hlt, Nat.sub_self, List.getElem?_drop]; rfl
    rw [e1, e2, tl_irrefl] at this
    cases this

end Go.Proofs.Ytbcemgmfkddafaa
