/-
  What an argument that is a slice of ints, of bytes or of bools says to a walk; two closed facts of this seat's program. No condition but what each theorem says.
  The reader that the drawn statements use (l6Open, pick): what it does to memory, and in which range its numbers are.
  The reader of drawn inputs: what is kept while it goes on (Step), and l6Open: a new reader. No condition but what each theorem says.
  Step laws: append to a slice of the call's own, in a region that draws its order. No condition but what each theorem says.
-/
import Derived.Test.YtaaamidkfhabnaaBase
import Derived.ProofKit
import Derived.OpenShut
import Derived.ShutString
import Derived.ChangeOld
import Derived.Below
import Derived.Deep.Grids
import Derived.Test.YtaaamidkfhabnaaGrp2
import Derived.Deep.RegionLaw
import Derived.Deep.AppendLies
import Derived.Deep.RegionWith
import Derived.Laws.IdiomStrings
namespace Go.Proofs.Ytaaamidkfhabnaa
open Go.RowKit

theorem own : ownKnob Try.prog.godebug = none := by kernel_rfl
theorem laidOut : laidOutB Try.prog = true := by kernel_rfl

theorem add_spot (b off j : Nat) : (⟨b, off, none⟩ : Addr).add j = ⟨b, off + j, none⟩ := by
  by_cases h : j = 0 <;> simp [Addr.add, h]

/-- A slice of integers that came in: it is nil, or it leads to a row of cap cells, the numbers zs (the first len are its elements). -/
def IsRow (k : IntKind) (w : World) (a : Option Addr) (len cap : Nat) (zs : List Int) : Prop :=
  (a = none ∧ len = 0 ∧ cap = 0 ∧ zs = []) ∨
  ∃ x, a = some x ∧ len ≤ cap ∧ cap ≤ maxLen ∧ zs.length = cap ∧ (∀ i, i < zs.length → w.cell? (x.add i) = some (.int k (zs.getD i 0))) ∧ ∀ n ∈ zs, (Lit.int k n).wf = true

theorem IsRow.ints {w : World} {a : Option Addr} {len cap : Nat} {zs : List Int} (h : IsRow .i64 w a len cap zs) (hl : len ≤ 1048576) : IsInts w a len cap (zs.take len) := by
  rcases h with ⟨rfl, rfl, rfl, rfl⟩ | ⟨⟨b, off, spot⟩, rfl, h1, h2, h3, h4, _⟩
  · exact ⟨rfl, Nat.le_refl _, by omega, fun h => by omega⟩
  · refine ⟨by simp; omega, h1, by omega, fun hp => ?_⟩
    have h0 := h4 0 (by omega)
    have hs : spot = none := by simpa [Addr.add] using World.cell?_spot h0
    subst hs
    refine ⟨b, off, rfl, World.block_lt_of_cell? w _ h0, fun j hj => ?_⟩
    have := h4 j (by omega)
    rw [List.getElem?_take_of_lt hj]
    rw [add_spot] at this
    simpa [List.getD] using this

/-- The slice value reads as the bytes zs. -/
def IsBytes (w : World) (a : Option Addr) (len : Nat) (zs : List Int) : Prop :=
  zs.length = len ∧ (∀ z ∈ zs, 0 ≤ z ∧ z ≤ 255) ∧ (0 < len → ∃ b off, a = some ⟨b, off, none⟩ ∧ b < w.heap.size ∧ ∀ j, j < len → w.cell? ⟨b, off + j, none⟩ = some (.int .u8 (zs[j]?.getD 0)))

theorem IsBytes.below {w w' : World} {a : Option Addr} {len : Nat} {zs : List Int} (h : IsBytes w a len zs) (hb : Below w.heap.size w w') : IsBytes w' a len zs := by
  obtain ⟨h1, h2, h4⟩ := h
  refine ⟨h1, h2, fun hl => ?_⟩
  obtain ⟨b, off, e, hlt, hc⟩ := h4 hl
  exact ⟨b, off, e, Nat.lt_of_lt_of_le hlt hb.size, fun j hj => (hb.cell (p := ⟨b, off + j, none⟩) hlt).trans (hc j hj)⟩

theorem IsRow.bytes {w : World} {a : Option Addr} {len cap : Nat} {zs : List Int} (h : IsRow .u8 w a len cap zs) : IsBytes w a len (zs.take len) := by
  rcases h with ⟨rfl, rfl, rfl, rfl⟩ | ⟨⟨b, off, spot⟩, rfl, h1, h2, h3, h4, h5⟩
  · exact ⟨rfl, by simp, fun h => by omega⟩
  · refine ⟨by simp; omega, fun z hz => ?_, fun hp => ?_⟩
    · have := h5 z (List.mem_of_mem_take hz)
      simp [Lit.wf, IntKind.min, IntKind.max, IntKind.signed, IntKind.bits] at this
      omega
    have h0 := h4 0 (by omega)
    have hs : spot = none := by simpa [Addr.add] using World.cell?_spot h0
    subst hs
    refine ⟨b, off, rfl, World.block_lt_of_cell? w _ h0, fun j hj => ?_⟩
    have := h4 j (by omega)
    rw [List.getElem?_take_of_lt hj]
    rw [add_spot] at this
    simpa [List.getD] using this

theorem IsRow.cap {k : IntKind} {w : World} {a : Option Addr} {len cap : Nat} {zs : List Int} (h : IsRow k w a len cap zs) : len ≤ cap := by
  rcases h with ⟨rfl, rfl, rfl, rfl⟩ | ⟨x, rfl, h1, _⟩
  · exact Nat.le_refl _
  · exact h1

/-- The slice value reads as the bools zs. -/
def IsBools (w : World) (a : Option Addr) (len cap : Nat) (zs : List Bool) : Prop :=
  zs.length = len ∧ len ≤ cap ∧ len ≤ 1048600 ∧ (0 < len → ∃ b off, a = some ⟨b, off, none⟩ ∧ b < w.heap.size ∧ ∀ j, j < len → w.cell? ⟨b, off + j, none⟩ = some (.bool (zs[j]?.getD false)))

theorem IsBools.below {w w' : World} {a : Option Addr} {len cap : Nat} {zs : List Bool} (h : IsBools w a len cap zs) (hb : Below w.heap.size w w') : IsBools w' a len cap zs := by
  obtain ⟨h1, h2, h3, h4⟩ := h
  refine ⟨h1, h2, h3, fun hl => ?_⟩
  obtain ⟨b, off, e, hlt, hc⟩ := h4 hl
  exact ⟨b, off, e, Nat.lt_of_lt_of_le hlt hb.size, fun j hj => (hb.cell (p := ⟨b, off + j, none⟩) hlt).trans (hc j hj)⟩
theorem IsBools.dr {w w' : World} {a : Option Addr} {len cap : Nat} {zs : List Bool} (h : IsBools w a len cap zs) (hd : Dr w w') : IsBools w' a len cap zs := h.below (hd.below _)

/-- A slice of bools that came in. -/
def IsBoolRow (w : World) (a : Option Addr) (len cap : Nat) (B : Nat → Bool) : Prop :=
  (a = none ∧ len = 0 ∧ cap = 0) ∨ ∃ x, a = some x ∧ len ≤ cap ∧ cap ≤ maxLen ∧ ∀ i, i < cap → w.cell? (x.add i) = some (.bool (B i))

theorem IsBoolRow.bools {w : World} {a : Option Addr} {len cap : Nat} {B : Nat → Bool} (h : IsBoolRow w a len cap B) (hl : len ≤ 1048576) : IsBools w a len cap ((List.range len).map B) := by
  rcases h with ⟨rfl, rfl, rfl⟩ | ⟨⟨b, off, spot⟩, rfl, h1, h2, h4⟩
  · exact ⟨rfl, Nat.le_refl _, by omega, fun h => by omega⟩
  · refine ⟨by simp, h1, by omega, fun hp => ?_⟩
    have h0 := h4 0 (by omega)
    have hs : spot = none := by simpa [Addr.add] using World.cell?_spot h0
    subst hs
    refine ⟨b, off, rfl, World.block_lt_of_cell? w _ h0, fun j hj => ?_⟩
    have := h4 j (by omega)
    rw [add_spot] at this
    simpa [hj] using this

end Go.Proofs.Ytaaamidkfhabnaa

namespace Go.Proofs.Ytaaamidkfhabnaa
open Go.RowKit

/-- Block R is a reader that stands at place p. -/
def Rd (w : World) (R p : Nat) : Prop := R < w.heap.size ∧ p ≤ 1000000 ∧ w.cell? ⟨R, 1, none⟩ = some (.int .i64 (p : Int)) ∧ w.frozen? ⟨R, 1, none⟩ = false ∧
  ∃ (a : Option Addr) (len cap : Nat) (bs : List Int), w.cell? ⟨R, 0, none⟩ = some (.slice a len cap) ∧ len ≤ 2000 ∧ bs.length = len ∧ (∀ z ∈ bs, 0 ≤ z ∧ z ≤ 255) ∧
    (0 < len → ∃ b off, a = some ⟨b, off, none⟩ ∧ b < R ∧ ∀ j, j < len → w.cell? ⟨b, off + j, none⟩ = some (.int .u8 (bs[j]?.getD 0)))

theorem Rd.below {w w' : World} {R p : Nat} (h : Rd w R p) (hb : Below w.heap.size w w') : Rd w' R p := by
  obtain ⟨h1, h2, h3, h4, a, len, cap, bs, h5, h6, h7, h8, h9⟩ := h
  refine ⟨Nat.lt_of_lt_of_le h1 hb.size, h2, (hb.cell (p := ⟨R, 1, none⟩) h1).trans h3, (hb.frozen (p := ⟨R, 1, none⟩) h1).trans h4, a, len, cap, bs, (hb.cell (p := ⟨R, 0, none⟩) h1).trans h5, h6, h7, h8, fun hl => ?_⟩
  obtain ⟨b, off, e, hbR, hc⟩ := h9 hl
  exact ⟨b, off, e, hbR, fun j hj => (hb.cell (p := ⟨b, off + j, none⟩) (Nat.lt_trans hbR h1)).trans (hc j hj)⟩

/-- A step of the reader: its place alone is written. -/
def Step (R : Nat) (w w' : World) : Prop := w.grownBy w' (some R)
theorem Step.of_set {w : World} {R : Nat} {v : Value} (q : Nat) : Step R w ((w.setCell ⟨R, 1, none⟩ v).drewN q) :=
  ⟨rfl, rfl, rfl, by simp [World.setCell], fun k _ hk => Below.heap_setCell _ _ _ _ (fun e => hk (by rw [e]))⟩
theorem Step.below {R : Nat} {w w' : World} (h : Step R w w') {B : Nat} (hR : B ≤ R) (hB : B ≤ w.heap.size) : Below B w w' := (Below.refl B w).grown h hB (fun k e => by cases e; exact hR)

theorem Rd.stepped {w : World} {R p : Nat} (h : Rd w R p) (q : Nat) (hp : p + 1 ≤ 1000000) : Rd ((w.setCell ⟨R, 1, none⟩ (.int .i64 ((p : Int) + 1))).drewN q) R (p + 1) := by
  obtain ⟨h1, h2, h3, h4, a, len, cap, bs, h5, h6, h7, h8, h9⟩ := h
  refine ⟨by simpa [World.setCell] using h1, hp, ?_, ?_, a, len, cap, bs, ?_, h6, h7, h8, fun hl => ?_⟩
  · rw [World.cell?_drewN, World.cell?_setCell_same' _ _ _ (by rw [h3]; rfl)]; rfl
  · rw [World.frozen?_drewN, World.frozen?_setCell]; exact h4
  · rw [World.cell?_drewN, World.cell?_setCell_other _ _ _ _ (by intro e; injection e with _ e2; exact absurd e2 (by decide))]; exact h5
  · obtain ⟨b, off, e, hbR, hc⟩ := h9 hl
    refine ⟨b, off, e, hbR, fun j hj => ?_⟩
    rw [World.cell?_drewN, World.cell?_setCell_other _ _ _ _ (by intro e'; injection e' with e1; omega)]
    exact hc j hj

theorem bits_xor_i64 (a b : Nat) (ha : a < 4611686018427387904) (hb : b < 4611686018427387904) : bits .xor .i64 (a : Int) (b : Int) = ((a ^^^ b : Nat) : Int) := by
  have hx : a ^^^ b < 2 ^ 62 := Nat.xor_lt_two_pow (by omega) (by omega)
  unfold bits
  show IntKind.i64.wrap (((BitVec.ofInt 64 (a : Int)) ^^^ (BitVec.ofInt 64 (b : Int))).toNat : Int) = _
  rw [BitVec.toNat_xor, ofInt_u64 a (by omega), ofInt_u64 b (by omega)]
  exact IntWalk.i64_in _ (by omega)
theorem pick_range (E n : Int) (h0 : 0 ≤ E) (h1 : E < 4611686018427387904) (hn : 1 ≤ n) : 0 ≤ (bits .xor .i64 E (E / 64)).tmod n ∧ (bits .xor .i64 E (E / 64)).tmod n < n := by
  obtain ⟨x, rfl⟩ := Int.eq_ofNat_of_zero_le h0
  have e : ((x : Int) / 64) = ((x / 64 : Nat) : Int) := by omega
  rw [e, bits_xor_i64 x (x / 64) (by omega) (by omega)]
  exact ⟨Int.tmod_nonneg _ (by omega), Int.tmod_lt_of_pos _ (by omega)⟩

/-- What a pick does. -/
def Picked (R p : Nat) (n : Int) (w : World) (e : Ending) (w' : World) : Prop := ∃ r : Nat, e = .returned (.int .i64 (r : Int)) ∧ (r : Int) < n ∧ Rd w' R (p + 1) ∧ Step R w w'

theorem picked_of {R p : Nat} {n r : Int} {w : World} (q : Nat) (h : Rd w R p) (hp : p + 1 ≤ 1000000) (h0 : 0 ≤ r) (h1 : r < n) : Picked R p n w (.returned (.int .i64 r)) ((w.setCell ⟨R, 1, none⟩ (.int .i64 ((p : Int) + 1))).drewN q) := by
  obtain ⟨x, rfl⟩ := Int.eq_ofNat_of_zero_le h0
  exact ⟨x, rfl, h1, h.stepped q hp, Step.of_set q⟩

set_option maxHeartbeats 1000000 in
/-- **pick**: a number from 0 to n-1. -/
theorem pick_any (R p : Nat) (n : Int) (w : World) (h : Rd w R p) (hp : p + 1 ≤ 1000000) (hn : 1 ≤ n) (hn' : n ≤ 1000000000) :
    Calls Try.prog 78 #[.pointer (some ⟨R, 0, none⟩), .int .i64 n] w (Picked R p n w) := by
  have H := Lib.hid h
  obtain ⟨h1, h2, h3, h4, a, len, cap, bs, h5, h6, h7, h8, h9⟩ := h
  have H7 := Lib.hid h7; clear h7
  have H8 := Lib.hid h8; clear h8
  have H9 := Lib.hid h9; clear h9
  have hd1 : decide (n < 1) = false := by simp; omega
  by_cases hl : len = 0
  · subst hl
    go_enter Try.func78, Try.ntmps78
    go_wp2
    go_ret
    exact picked_of 0 H.out hp (by omega) (by omega)
  · have hle : ((len : Int) == 0) = false := by simpa using hl
    obtain ⟨b, off, rfl, hb, hc⟩ := H9.out (by omega)
    by_cases hin : p < len
    · have hcell := hc p hin
      have hbr := H8.out (bs[p]?.getD 0) (by have : p < bs.length := by rw [H7.out]; exact hin
                                             simp [this])
      obtain ⟨z, hz⟩ : ∃ z, bs[p]?.getD 0 = z := ⟨_, rfl⟩
      rw [hz] at hcell hbr
      clear hz hc
      go_enter Try.func78, Try.ntmps78
      go_wp2
      go_ret
      exact picked_of 0 H.out hp (Int.emod_nonneg _ (by omega)) (Int.emod_lt_of_pos _ (by omega))
    · have hget : ∀ j, j < len → ∃ z, (0 ≤ z ∧ z ≤ 255) ∧ w.cell? ⟨b, off + j, none⟩ = some (.int .u8 z) := fun j hj =>
        ⟨_, H8.out (bs[j]?.getD 0) (by have : j < bs.length := by rw [H7.out]; exact hj
                                       simp [this]), hc j hj⟩
      obtain ⟨z1, hz1, hcell1⟩ := hget (p % len) (Nat.mod_lt _ (by omega))
      obtain ⟨z2, hz2, hcell2⟩ := hget ((p * 7 + 3) % len) (Nat.mod_lt _ (by omega))
      have hq0 : (0 : Int) ≤ (p : Int) / (len : Int) := Int.ediv_nonneg (by omega) (by omega)
      have hq1 : (p : Int) / (len : Int) ≤ (p : Int) := Int.ediv_le_self _ (by omega)
      have hm1 : (0 : Int) ≤ (p : Int) % (len : Int) := Int.emod_nonneg _ (by omega)
      have hm2 : (p : Int) % (len : Int) < (len : Int) := Int.emod_lt_of_pos _ (by omega)
      have hm3 : ((p : Int) % (len : Int)).toNat = p % len := by rw [← Int.natCast_emod, Int.toNat_natCast]
      have hk1 : (0 : Int) ≤ ((p : Int) * 7 + 3) % (len : Int) := Int.emod_nonneg _ (by omega)
      have hk2 : ((p : Int) * 7 + 3) % (len : Int) < (len : Int) := Int.emod_lt_of_pos _ (by omega)
      have hk3 : (((p : Int) * 7 + 3) % (len : Int)).toNat = (p * 7 + 3) % len := by
        have e : ((p : Int) * 7 + 3) = ((p * 7 + 3 : Nat) : Int) := by omega
        rw [e, ← Int.natCast_emod, Int.toNat_natCast]
      clear hc hget
      go_enter Try.func78, Try.ntmps78
      go_wp2
      go_quiet (fail)
      clear hm1 hm2 hm3 hk1 hk2 hk3
      go_wp2
      go_ret
      have hE := pick_range (z1 * 131 + z2 * 1117 + (p : Int) * 29 + (p : Int) / (len : Int) * 53) n (by omega) (by omega) hn
      exact picked_of nq H.out hp hE.1 hE.2

end Go.Proofs.Ytaaamidkfhabnaa

namespace Go.Proofs.Ytaaamidkfhabnaa
open Go.RowKit

theorem one_int (q : Int) : ∀ u ∈ [Value.int .i64 q], u.oneCell' = true := by simp [Value.oneCell']
theorem base_alloc {b : Nat} {w : World} (h : b ≤ w.heap.size) (o : Obj) : b ≤ (w.alloc o).heap.size := by simp; omega
theorem size_two (w : World) (o o' : Obj) : ((w.alloc o).alloc o').heap.size = w.heap.size + 1 + 1 := by simp
theorem own_at {g j len cap : Nat} (e : (Value.slice (some ⟨g, 0, none⟩) len cap).ownBlock = some j) : g = j := by cases e; rfl
theorem Step.of_drew {R : Nat} {w w' : World} (h : Step R w.drew w') : Step R w w' := ⟨h.os, h.tape, h.output, h.size, h.block⟩

theorem Step.refl (R : Nat) (w : World) : Step R w w := ⟨rfl, rfl, rfl, Nat.le_refl _, fun _ _ _ => rfl⟩
theorem Step.alloc {R : Nat} {w w' : World} (h : Step R w w') (o : Obj) : Step R w (w'.alloc o) :=
  ⟨h.os, h.tape, h.output, by have := h.size; simp; omega, fun k hk hr => (Below.heap_alloc _ _ _ (Nat.lt_of_lt_of_le hk h.size)).trans (h.block k hk hr)⟩
theorem Step.grown {R : Nat} {w w' w2 : World} {row : Option Nat} (h : Step R w w') (g : w'.grownBy w2 row) (hr : ∀ k, row = some k → w.heap.size ≤ k ∨ k = R) : Step R w w2 :=
  ⟨g.os.trans h.os, g.tape.trans h.tape, g.output.trans h.output, Nat.le_trans h.size g.size, fun k hk hne => (g.block k (Nat.lt_of_lt_of_le hk h.size) (fun e => by
    rcases hr k e.symm with h1 | h1
    · omega
    · exact hne (by rw [h1]))).trans (h.block k hk hne)⟩
theorem Step.trans {R : Nat} {a b c : World} (h : Step R a b) (g : Step R b c) : Step R a c := h.grown g (fun k e => by cases e; exact .inr rfl)
theorem owns_step {w w' : World} {R base n size : Nat} {e : TypeId} {v : Value} {xs : List Value} (h : w.ownsRow base e size v n xs) (hs : Step R w w') (hR : R < base) : w'.ownsRow base e size v n xs := by
  refine h.kept hs ?_
  cases hb : v.ownBlock with
  | none => exact .inl rfl
  | some k => have := (h.lt k hb).1; right; intro e2; cases e2; omega
theorem Rd.grown {w w' : World} {R p : Nat} {row : Option Nat} (h : Rd w R p) (g : w.grownBy w' row) (hr : ∀ k, row = some k → R < k) : Rd w' R p :=
  have hb : Below (R + 1) w w' := ⟨g.os, g.tape, g.output, g.size, fun k hk => g.block k (by have := h.1; omega) (fun e => by have := hr k e.symm; omega)⟩
  by
    obtain ⟨h1, h2, h3, h4, a, len, cap, bs, h5, h6, h7, h8, h9⟩ := h
    refine ⟨Nat.lt_of_lt_of_le h1 g.size, h2, (hb.cell (p := ⟨R, 1, none⟩) (by simp)).trans h3, (hb.frozen (p := ⟨R, 1, none⟩) (by simp)).trans h4, a, len, cap, bs, (hb.cell (p := ⟨R, 0, none⟩) (by simp)).trans h5, h6, h7, h8, fun hl => ?_⟩
    obtain ⟨b, off, e, hbR, hc⟩ := h9 hl
    exact ⟨b, off, e, hbR, fun j hj => (hb.cell (p := ⟨b, off + j, none⟩) (by simp; omega)).trans (hc j hj)⟩

set_option maxRecDepth 100000 in
set_option maxHeartbeats 1000000 in
/-- **l6Open**: a new reader. -/
theorem open_any (a : Option Addr) (len cap : Nat) (bs : List Int) (w : World) (h : IsBytes w a len bs) (hcap : len ≤ cap) (hl : len ≤ 1048600) :
    Calls Try.prog 44 #[.slice a len cap] w fun e w' => e = .returned (.pointer (some ⟨w.heap.size, 0, none⟩)) ∧ Rd w' w.heap.size 0 ∧ Below w.heap.size w w' := by
  by_cases hb : 2000 < len
  · obtain ⟨h1, h2, h4⟩ := h
    obtain ⟨b, off, rfl, hbw, hc⟩ := h4 (by omega)
    have HR : Hid (Rd (w.alloc (.cells #[.slice (some ⟨b, off, none⟩) 2000 cap, .int .i64 0] 86)) w.heap.size 0) := by
      have hB : Below w.heap.size w (w.alloc (.cells #[.slice (some ⟨b, off, none⟩) 2000 cap, .int .i64 0] 86)) := (Below.refl _ w).alloc (Nat.le_refl _) _
      refine ⟨by simp, by omega, (World.cell?_alloc_mark w _ _ (0, 0) 1).trans rfl, (World.frozen?_alloc_mark w _ _ 0 0 1).trans rfl, _, 2000, cap, bs.take 2000, (World.cell?_alloc_mark w _ _ (0, 0) 0).trans rfl, by omega, by simp; omega, fun z hz => h2 z (List.mem_of_mem_take hz), fun _ => ⟨b, off, rfl, hbw, fun j hj => ?_⟩⟩
      rw [List.getElem?_take_of_lt hj]
      exact (hB.cell (p := ⟨b, off + j, none⟩) hbw).trans (hc j (by omega))
    clear h2 h4 hc
    go_enter Try.func44, Try.ntmps44
    go_wp2
    go_ret
    exact ⟨rfl, HR.out, (Below.refl _ w).alloc (Nat.le_refl _) _⟩
  · obtain ⟨h1, h2, h4⟩ := h
    have HR : Hid (Rd (w.alloc (.cells #[.slice a len cap, .int .i64 0] 86)) w.heap.size 0) := by
      have hB : Below w.heap.size w (w.alloc (.cells #[.slice a len cap, .int .i64 0] 86)) := (Below.refl _ w).alloc (Nat.le_refl _) _
      refine ⟨by simp, by omega, (World.cell?_alloc_mark w _ _ (0, 0) 1).trans rfl, (World.frozen?_alloc_mark w _ _ 0 0 1).trans rfl, _, len, cap, bs, (World.cell?_alloc_mark w _ _ (0, 0) 0).trans rfl, by omega, h1, h2, fun hp => ?_⟩
      obtain ⟨b, off, e, hbw, hc⟩ := h4 hp
      exact ⟨b, off, e, hbw, fun j hj => (hB.cell (p := ⟨b, off + j, none⟩) hbw).trans (hc j hj)⟩
    clear h2 h4
    go_enter Try.func44, Try.ntmps44
    go_wp2
    go_ret
    exact ⟨rfl, HR.out, (Below.refl _ w).alloc (Nat.le_refl _) _⟩

end Go.Proofs.Ytaaamidkfhabnaa

namespace Go.Proofs.Ytaaamidkfhabnaa
open Go.RowKit

/-- append to a slice of the call's own, as one step of a region that draws. -/
theorem step_append_own {P : Program} {ops : Array Oper} {o : Oper} {a : Act} {w : World} {K : Act → World → Prop} {Q : Exit → Act → World → Prop} {E : Prop}
    (hg : o.guard = none) (s x : Operand) (t : TypeId) (ho : o.op = .call { callee := .builtin .append, args := #[s, x], argTypes := #[t, t] })
    (base : Nat) (e : TypeId) (i : TypeInfo) (z : Value) (size bytes : Nat) (ht : P.underlying t = some (.slice e)) (hi : P.info? e = some i) (hz : i.zero = some z)
    (hsize : i.size = size) (hby : i.bytes = bytes) (hzs : z.cells.size = size) (hsz : 0 < size)
    (v : Value) (n : Nat) (xs : List Value) (hs : a.eval s = v) (hown : w.ownsRow base e size v n xs)
    (ad : Addr) (m c : Nat) (news : List Value) (hx : a.eval x = .slice (some ad) m c) (hl : news.length = m * size) (hnews : ∀ j u, news[j]? = some u → w.cell? (ad.add j) = some u) (h1 : ∀ u ∈ news, u.oneCell' = true)
    (h63 : n + m ≤ maxLen) (hbytes : (n + m) * bytes ≤ 140737488355328) (hbase : base ≤ w.heap.size)
    (h : ∀ v' w', w'.ownsRow base e size v' (n + m) (xs ++ news) → w.grownBy w' v.ownBlock → (v' = .slice none 0 0 ↔ v = .slice none 0 0 ∧ m = 0) → K (a.put o.dst v') w') :
    if Region.wanted o (yielded ops a.tmps) = true then Oper.wp P o a w K Q else E := by
  have hw : Region.wanted o (yielded ops a.tmps) = true := by simp [Region.wanted, hg]
  rw [if_pos hw]
  exact wp_append_own w s x t ho base e i z size bytes ht hi hz hsize hby hzs hsz v n xs hs hown ad m c news hx hl hnews h1 h63 hbytes hbase h

theorem one_slice (a : Option Addr) (l c : Nat) : ∀ u ∈ [Value.slice a l c], u.oneCell' = true := by simp [Value.oneCell']
theorem one_cell {w : World} {g : Nat} {v : Value} (h : w.cell? ⟨g, 0, none⟩ = some v) : ∀ j u, [v][j]? = some u → w.cell? ((⟨g, 0, none⟩ : Addr).add j) = some u := by
  intro j u hu
  cases j with
  | zero =>
    cases hu
    simpa [Addr.add] using h
  | succ j => simp at hu

theorem own_cells {w : World} {base g n c : Nat} {zs : List Int} (h : w.ownsRow base 3 1 (.slice (some ⟨g, 0, none⟩) n c) n (zs.map (Value.int .i64))) : ∀ j u, (zs.map (Value.int .i64))[j]? = some u → w.cell? ((⟨g, 0, none⟩ : Addr).add j) = some u := by
  intro j u hu
  have hl := h.1
  have hj : j < n := by
    rcases Nat.lt_or_ge j n with h1 | h1
    · exact h1
    · rw [List.getElem?_eq_none (by omega)] at hu; cases hu
  rw [add_spot, Nat.zero_add, h.cellAt j (by omega)]
  exact hu
theorem ints_one' (zs : List Int) : ∀ u ∈ zs.map (Value.int .i64), u.oneCell' = true := by
  intro u hu
  obtain ⟨z, _, rfl⟩ := List.mem_map.1 hu
  simp [Value.oneCell']

end Go.Proofs.Ytaaamidkfhabnaa
