/-
  What a slice of ints that the call owns says to a reader; lists that are filled, or compared. No condition but what each theorem says.
  A list that a call returns with a bool (Told); a block of the call's own is kept. No condition but what each theorem says.
  The reader that the drawn statements use (l6Open, pick): what it does to memory, and in which range its numbers are.
  The reader of drawn inputs: what is kept while it goes on (Step), and l6Open: a new reader. No condition but what each theorem says.
  Step laws: append to a slice of the call's own, in a region that draws its order. No condition but what each theorem says.
  Parts of a list that lies in memory: what is appended of it. No condition but what each theorem says.
  spec.LotsOf: what it returns for every number of candidates and every seed, in memory of its own; it writes into no memory that was there.
  spec.SeatsNext, spec.SeatsDivisor and spec.SeatsCheck: contracts at all arguments. They write into no memory that was there.
-/
import Derived.Test.YtbcemgmfkddafaaGrp1
import Derived.Laws.OwnMore
import Derived.OwnWalk
import Derived.Deep.Onto
import Derived.Deep.RegionLaw
import Derived.Deep.AppendLies
import Derived.Deep.RegionWith
import Derived.Laws.IdiomStrings
import Derived.Test.YtbcemgmfkddafaaGrp3
import Derived.Test.YtbcemgmfkddafaaSeatS
namespace Go.Proofs.Ytbcemgmfkddafaa
open Go.RowKit

theorem int_info : (Try.prog.info? 3).map (fun i => (i.zero, i.size, i.bytes)) = some (some (.int .i64 0), 1, 8) := by kernel_rfl

/-- What a row that is owned says to a reader. -/
theorem IsInts.of_owns {w : World} {base g len cap : Nat} {zs : List Int} (h : w.ownsRow base 3 1 (.slice (some ⟨g, 0, none⟩) len cap) len (zs.map (Value.int .i64))) (hl : len ≤ 1048600) : IsInts w (some ⟨g, 0, none⟩) len cap zs := by
  have hlen : zs.length = len := by have := h.1; simpa using this
  have hcap : len ≤ cap := by
    rcases h.2 with ⟨e, _⟩ | ⟨_, c, _, e, _, _, hc, _⟩
    · cases e
    · injection e with _ _ e3; omega
  refine ⟨hlen, hcap, hl, fun hp => ⟨g, 0, rfl, ?_, fun j hj => ?_⟩⟩
  · exact (h.lt g rfl).2
  · rw [Nat.zero_add, h.cellAt j (by omega)]
    simp [show j < zs.length from by omega]

theorem owns_slice {w : World} {base : Nat} {e : TypeId} {size n : Nat} {v : Value} {xs : List Value} (h : w.ownsRow base e size v n xs) : ∃ a cap, v = .slice a n cap := by
  rcases h.2 with ⟨rfl, rfl⟩ | ⟨g, c, _, rfl, _⟩
  · exact ⟨none, 0, rfl⟩
  · exact ⟨_, c, rfl⟩
theorem IsInts.of_owned {w : World} {base len cap : Nat} {a : Option Addr} {zs : List Int} (h : w.ownsRow base 3 1 (.slice a len cap) len (zs.map (Value.int .i64))) (hl : len ≤ 1048600) : IsInts w a len cap zs := by
  rcases h.2 with ⟨e, e0⟩ | ⟨g, c, _, e, _⟩
  · subst e0
    have hz : zs = [] := by have := h.1; simpa using this
    subst hz
    exact ⟨rfl, Nat.zero_le _, hl, fun hp => by omega⟩
  · injection e with e1 e2 e3
    subst e1
    exact IsInts.of_owns h hl

/-- The first k of zs, then zeros: what toIntS has written when k rounds are over. -/
def fillTo (zs : List Int) (len k : Nat) : List Int := zs.take k ++ List.replicate (len - k) 0
theorem fillTo_step (zs : List Int) (len k : Nat) (hz : zs.length = len) (hk : k < len) : ((fillTo zs len k).map (Value.int .i64)).set k (.int .i64 (zs[k]?.getD 0)) = (fillTo zs len (k + 1)).map (Value.int .i64) := by
  have e : len - k = (len - (k + 1)) + 1 := by omega
  unfold fillTo
  rw [e, List.replicate_succ, List.take_succ_eq_append_getElem (by omega)]
  have hl : ((zs.take k).map (Value.int .i64)).length = k := by simp; omega
  simp only [List.map_append, List.map_cons, List.append_assoc, List.cons_append, List.nil_append]
  rw [List.set_append_right _ _ (by omega), hl, Nat.sub_self, List.set_cons_zero]
  simp [show k < zs.length from by omega]
theorem fillTo_all (zs : List Int) (len : Nat) (hz : zs.length = len) : fillTo zs len len = zs := by simp [fillTo, ← hz]

/-- Two lists of ints are equal. -/
def eqB (zs ys : List Int) : Bool := decide (zs = ys)
theorem eqB_self (zs : List Int) : eqB zs zs = true := by simp [eqB]
theorem take_step (zs ys : List Int) (k : Nat) (hz : k < zs.length) (hy : k < ys.length) (h : zs.take k = ys.take k) (he : zs[k]?.getD 0 = ys[k]?.getD 0) : zs.take (k + 1) = ys.take (k + 1) := by
  rw [List.take_succ_eq_append_getElem hz, List.take_succ_eq_append_getElem hy, h]
  simp [hz, hy] at he
  rw [he]
theorem take_part (zs ys : List Int) (k : Nat) (he : (zs[k]?.getD 0 == ys[k]?.getD 0) = false) : eqB zs ys = false := by
  simp only [eqB, decide_eq_false_iff_not]
  rintro rfl
  simp at he

end Go.Proofs.Ytbcemgmfkddafaa

namespace Go.Proofs.Ytbcemgmfkddafaa
open Go.RowKit

theorem owns_under {w w' : World} {base n size : Nat} {e : TypeId} {v : Value} {xs : List Value} (h : w.ownsRow base e size v n xs) (hb : Below w.heap.size w w') : w'.ownsRow base e size v n xs := by
  refine h.kept (row := none) ⟨hb.os, hb.tape, hb.output, hb.size, fun k hk _ => hb.block k hk⟩ ?_
  cases v.ownBlock <;> simp

/-- What is told of a list that is returned with a bool. -/
def Told (w : World) (pl : List Int) (ok : Bool) (e : Ending) (w' : World) : Prop := ∃ a cap, e = .returned (.tuple #[.slice a pl.length cap, .bool ok]) ∧ w'.ownsRow w.heap.size 3 1 (.slice a pl.length cap) pl.length (pl.map (Value.int .i64)) ∧ Below w.heap.size w w'

theorem zeros_made (n : Nat) : (madeCells (Value.int .i64 0).cells (n * 1)).toList = (List.replicate n (0 : Int)).map (Value.int .i64) := by
  rw [show (Value.int .i64 0).cells = #[.int .i64 0] from rfl, toList_madeCells_one]; simp
theorem map_set_int (l : List Int) (i : Nat) (z : Int) : (l.map (Value.int .i64)).set i (.int .i64 z) = (l.set i z).map (Value.int .i64) := by rw [List.map_set]

end Go.Proofs.Ytbcemgmfkddafaa

namespace Go.Proofs.Ytbcemgmfkddafaa
open Go.RowKit

/-- Block R is a reader that stands at place p. -/
def Rd (w : World) (R p : Nat) : Prop := R < w.heap.size ∧ p ≤ 1000000 ∧ w.cell? ⟨R, 1, none⟩ = some (.int .i64 (p : Int)) ∧ w.frozen? ⟨R, 1, none⟩ = false ∧
  ∃ (a : Option Addr) (len cap : Nat) (bs : List Int), w.cell? ⟨R, 0, none⟩ = some (.slice a len cap) ∧ len ≤ 2000 ∧ bs.length = len ∧ (∀ z ∈ bs, 0 ≤ z ∧ z ≤ 255) ∧
    (0 < len → ∃ b off, a = some ⟨b, off, none⟩ ∧ b < R ∧ ∀ j, j < len → w.cell? ⟨b, off + j, none⟩ = some (.int .u8 (bs[j]?.getD 0)))

theorem Rd.below {w w' : World} {R p : Nat} (h : Rd w R p) (hb : Below w.heap.size w w') : Rd w' R p := by
  obtain ⟨h1, h2, h3, h4, a, len, cap, bs, h5, h6, h7, h8, h9⟩ := h
  refine ⟨Nat.lt_of_lt_of_le h1 hb.size, h2, (hb.cell (p := ⟨R, 1, none⟩) h1).trans h3, (hb.frozen (p := ⟨R, 1, none⟩) h1).trans h4, a, len, cap, bs, (hb.cell (p := ⟨R, 0, none⟩) h1).trans h5, h6, h7, h8, fun hl => ?_⟩
  obtain ⟨b, off, e, hbR, hc⟩ := h9 hl
  exact ⟨b, off, e, hbR, fun j hj => (hb.cell (p := ⟨b, off + j, none⟩) (Nat.lt_trans hbR h1)).trans (hc j hj)⟩

/-- A step of the reader: its place alone is written. -/
def Step (R : Nat) (w w' : World) : Prop := w.grownBy w' (some R)
theorem Step.of_set {w : World} {R : Nat} {v : Value} (q : Nat) : Step R w ((w.setCell ⟨R, 1, none⟩ v).drewN q) :=
  ⟨rfl, rfl, rfl, by simp [World.setCell], fun k _ hk => Below.heap_setCell _ _ _ _ (fun e => hk (by rw [e]))⟩
theorem Step.below {R : Nat} {w w' : World} (h : Step R w w') {B : Nat} (hR : B ≤ R) (hB : B ≤ w.heap.size) : Below B w w' := (Below.refl B w).grown h hB (fun k e => by cases e; exact hR)

theorem Rd.stepped {w : World} {R p : Nat} (h : Rd w R p) (q : Nat) (hp : p + 1 ≤ 1000000) : Rd ((w.setCell ⟨R, 1, none⟩ (.int .i64 ((p : Int) + 1))).drewN q) R (p + 1) := by
  obtain ⟨h1, h2, h3, h4, a, len, cap, bs, h5, h6, h7, h8, h9⟩ := h
  refine ⟨by simpa [World.setCell] using h1, hp, ?_, ?_, a, len, cap, bs, ?_, h6, h7, h8, fun hl => ?_⟩
  · rw [World.cell?_drewN, World.cell?_setCell_same' _ _ _ (by rw [h3]; rfl)]; rfl
  · rw [World.frozen?_drewN, World.frozen?_setCell]; exact h4
  · rw [World.cell?_drewN, World.cell?_setCell_other _ _ _ _ (by intro e; injection e with _ e2; exact absurd e2 (by decide))]; exact h5
  · obtain ⟨b, off, e, hbR, hc⟩ := h9 hl
    refine ⟨b, off, e, hbR, fun j hj => ?_⟩
    rw [World.cell?_drewN, World.cell?_setCell_other _ _ _ _ (by intro e'; injection e' with e1; omega)]
    exact hc j hj

theorem bits_xor_i64 (a b : Nat) (ha : a < 4611686018427387904) (hb : b < 4611686018427387904) : bits .xor .i64 (a : Int) (b : Int) = ((a ^^^ b : Nat) : Int) := by
  have hx : a ^^^ b < 2 ^ 62 := Nat.xor_lt_two_pow (by omega) (by omega)
  unfold bits
  show IntKind.i64.wrap (((BitVec.ofInt 64 (a : Int)) ^^^ (BitVec.ofInt 64 (b : Int))).toNat : Int) = _
  rw [BitVec.toNat_xor, ofInt_u64 a (by omega), ofInt_u64 b (by omega)]
  exact IntWalk.i64_in _ (by omega)
theorem pick_range (E n : Int) (h0 : 0 ≤ E) (h1 : E < 4611686018427387904) (hn : 1 ≤ n) : 0 ≤ (bits .xor .i64 E (E / 64)).tmod n ∧ (bits .xor .i64 E (E / 64)).tmod n < n := by
  obtain ⟨x, rfl⟩ := Int.eq_ofNat_of_zero_le h0
  have e : ((x : Int) / 64) = ((x / 64 : Nat) : Int) := by omega
  rw [e, bits_xor_i64 x (x / 64) (by omega) (by omega)]
  exact ⟨Int.tmod_nonneg _ (by omega), Int.tmod_lt_of_pos _ (by omega)⟩

/-- What a pick does. -/
def Picked (R p : Nat) (n : Int) (w : World) (e : Ending) (w' : World) : Prop := ∃ r : Nat, e = .returned (.int .i64 (r : Int)) ∧ (r : Int) < n ∧ Rd w' R (p + 1) ∧ Step R w w'

theorem picked_of {R p : Nat} {n r : Int} {w : World} (q : Nat) (h : Rd w R p) (hp : p + 1 ≤ 1000000) (h0 : 0 ≤ r) (h1 : r < n) : Picked R p n w (.returned (.int .i64 r)) ((w.setCell ⟨R, 1, none⟩ (.int .i64 ((p : Int) + 1))).drewN q) := by
  obtain ⟨x, rfl⟩ := Int.eq_ofNat_of_zero_le h0
  exact ⟨x, rfl, h1, h.stepped q hp, Step.of_set q⟩

set_option maxHeartbeats 1000000 in
/-- **pick**: a number from 0 to n-1. -/
theorem pick_any (R p : Nat) (n : Int) (w : World) (h : Rd w R p) (hp : p + 1 ≤ 1000000) (hn : 1 ≤ n) (hn' : n ≤ 1000000000) :
    Calls Try.prog 56 #[.pointer (some ⟨R, 0, none⟩), .int .i64 n] w (Picked R p n w) := by
  have H := Lib.hid h
  obtain ⟨h1, h2, h3, h4, a, len, cap, bs, h5, h6, h7, h8, h9⟩ := h
  have H7 := Lib.hid h7; clear h7
  have H8 := Lib.hid h8; clear h8
  have H9 := Lib.hid h9; clear h9
  have hd1 : decide (n < 1) = false := by simp; omega
  by_cases hl : len = 0
  · subst hl
    go_enter Try.func56, Try.ntmps56
    go_wp2
    go_ret
    exact picked_of 0 H.out hp (by omega) (by omega)
  · have hle : ((len : Int) == 0) = false := by simpa using hl
    obtain ⟨b, off, rfl, hb, hc⟩ := H9.out (by omega)
    by_cases hin : p < len
    · have hcell := hc p hin
      have hbr := H8.out (bs[p]?.getD 0) (by have : p < bs.length := by rw [H7.out]; exact hin
                                             simp [this])
      obtain ⟨z, hz⟩ : ∃ z, bs[p]?.getD 0 = z := ⟨_, rfl⟩
      rw [hz] at hcell hbr
      clear hz hc
      go_enter Try.func56, Try.ntmps56
      go_wp2
      go_ret
      exact picked_of 0 H.out hp (Int.emod_nonneg _ (by omega)) (Int.emod_lt_of_pos _ (by omega))
    · have hget : ∀ j, j < len → ∃ z, (0 ≤ z ∧ z ≤ 255) ∧ w.cell? ⟨b, off + j, none⟩ = some (.int .u8 z) := fun j hj =>
        ⟨_, H8.out (bs[j]?.getD 0) (by have : j < bs.length := by rw [H7.out]; exact hj
                                       simp [this]), hc j hj⟩
      obtain ⟨z1, hz1, hcell1⟩ := hget (p % len) (Nat.mod_lt _ (by omega))
      obtain ⟨z2, hz2, hcell2⟩ := hget ((p * 7 + 3) % len) (Nat.mod_lt _ (by omega))
      have hq0 : (0 : Int) ≤ (p : Int) / (len : Int) := Int.ediv_nonneg (by omega) (by omega)
      have hq1 : (p : Int) / (len : Int) ≤ (p : Int) := Int.ediv_le_self _ (by omega)
      have hm1 : (0 : Int) ≤ (p : Int) % (len : Int) := Int.emod_nonneg _ (by omega)
      have hm2 : (p : Int) % (len : Int) < (len : Int) := Int.emod_lt_of_pos _ (by omega)
      have hm3 : ((p : Int) % (len : Int)).toNat = p % len := by rw [← Int.natCast_emod, Int.toNat_natCast]
      have hk1 : (0 : Int) ≤ ((p : Int) * 7 + 3) % (len : Int) := Int.emod_nonneg _ (by omega)
      have hk2 : ((p : Int) * 7 + 3) % (len : Int) < (len : Int) := Int.emod_lt_of_pos _ (by omega)
      have hk3 : (((p : Int) * 7 + 3) % (len : Int)).toNat = (p * 7 + 3) % len := by
        have e : ((p : Int) * 7 + 3) = ((p * 7 + 3 : Nat) : Int) := by omega
        rw [e, ← Int.natCast_emod, Int.toNat_natCast]
      clear hc hget
      go_enter Try.func56, Try.ntmps56
      go_wp2
      go_quiet (fail)
      clear hm1 hm2 hm3 hk1 hk2 hk3
      go_wp2
      go_ret
      have hE := pick_range (z1 * 131 + z2 * 1117 + (p : Int) * 29 + (p : Int) / (len : Int) * 53) n (by omega) (by omega) hn
      exact picked_of nq H.out hp hE.1 hE.2

end Go.Proofs.Ytbcemgmfkddafaa

namespace Go.Proofs.Ytbcemgmfkddafaa
open Go.RowKit

theorem one_int (q : Int) : ∀ u ∈ [Value.int .i64 q], u.oneCell' = true := by simp [Value.oneCell']
theorem base_alloc {b : Nat} {w : World} (h : b ≤ w.heap.size) (o : Obj) : b ≤ (w.alloc o).heap.size := by simp; omega
theorem size_two (w : World) (o o' : Obj) : ((w.alloc o).alloc o').heap.size = w.heap.size + 1 + 1 := by simp
theorem own_at {g j len cap : Nat} (e : (Value.slice (some ⟨g, 0, none⟩) len cap).ownBlock = some j) : g = j := by cases e; rfl
theorem Step.of_drew {R : Nat} {w w' : World} (h : Step R w.drew w') : Step R w w' := ⟨h.os, h.tape, h.output, h.size, h.block⟩

theorem Step.refl (R : Nat) (w : World) : Step R w w := ⟨rfl, rfl, rfl, Nat.le_refl _, fun _ _ _ => rfl⟩
theorem Step.alloc {R : Nat} {w w' : World} (h : Step R w w') (o : Obj) : Step R w (w'.alloc o) :=
  ⟨h.os, h.tape, h.output, by have := h.size; simp; omega, fun k hk hr => (Below.heap_alloc _ _ _ (Nat.lt_of_lt_of_le hk h.size)).trans (h.block k hk hr)⟩
theorem Step.grown {R : Nat} {w w' w2 : World} {row : Option Nat} (h : Step R w w') (g : w'.grownBy w2 row) (hr : ∀ k, row = some k → w.heap.size ≤ k ∨ k = R) : Step R w w2 :=
  ⟨g.os.trans h.os, g.tape.trans h.tape, g.output.trans h.output, Nat.le_trans h.size g.size, fun k hk hne => (g.block k (Nat.lt_of_lt_of_le hk h.size) (fun e => by
    rcases hr k e.symm with h1 | h1
    · omega
    · exact hne (by rw [h1]))).trans (h.block k hk hne)⟩
theorem Step.trans {R : Nat} {a b c : World} (h : Step R a b) (g : Step R b c) : Step R a c := h.grown g (fun k e => by cases e; exact .inr rfl)
theorem owns_step {w w' : World} {R base n size : Nat} {e : TypeId} {v : Value} {xs : List Value} (h : w.ownsRow base e size v n xs) (hs : Step R w w') (hR : R < base) : w'.ownsRow base e size v n xs := by
  refine h.kept hs ?_
  cases hb : v.ownBlock with
  | none => exact .inl rfl
  | some k => have := (h.lt k hb).1; right; intro e2; cases e2; omega
theorem Rd.grown {w w' : World} {R p : Nat} {row : Option Nat} (h : Rd w R p) (g : w.grownBy w' row) (hr : ∀ k, row = some k → R < k) : Rd w' R p :=
  have hb : Below (R + 1) w w' := ⟨g.os, g.tape, g.output, g.size, fun k hk => g.block k (by have := h.1; omega) (fun e => by have := hr k e.symm; omega)⟩
  by
    obtain ⟨h1, h2, h3, h4, a, len, cap, bs, h5, h6, h7, h8, h9⟩ := h
    refine ⟨Nat.lt_of_lt_of_le h1 g.size, h2, (hb.cell (p := ⟨R, 1, none⟩) (by simp)).trans h3, (hb.frozen (p := ⟨R, 1, none⟩) (by simp)).trans h4, a, len, cap, bs, (hb.cell (p := ⟨R, 0, none⟩) (by simp)).trans h5, h6, h7, h8, fun hl => ?_⟩
    obtain ⟨b, off, e, hbR, hc⟩ := h9 hl
    exact ⟨b, off, e, hbR, fun j hj => (hb.cell (p := ⟨b, off + j, none⟩) (by simp; omega)).trans (hc j hj)⟩

set_option maxRecDepth 100000 in
set_option maxHeartbeats 1000000 in
/-- **l6Open**: a new reader. -/
theorem open_any (a : Option Addr) (len cap : Nat) (bs : List Int) (w : World) (h : IsBytes w a len bs) (hcap : len ≤ cap) (hl : len ≤ 1048600) :
    Calls Try.prog 54 #[.slice a len cap] w fun e w' => e = .returned (.pointer (some ⟨w.heap.size, 0, none⟩)) ∧ Rd w' w.heap.size 0 ∧ Below w.heap.size w w' := by
  by_cases hb : 2000 < len
  · obtain ⟨h1, h2, h4⟩ := h
    obtain ⟨b, off, rfl, hbw, hc⟩ := h4 (by omega)
    have HR : Hid (Rd (w.alloc (.cells #[.slice (some ⟨b, off, none⟩) 2000 cap, .int .i64 0] 88)) w.heap.size 0) := by
      have hB : Below w.heap.size w (w.alloc (.cells #[.slice (some ⟨b, off, none⟩) 2000 cap, .int .i64 0] 88)) := (Below.refl _ w).alloc (Nat.le_refl _) _
      refine ⟨by simp, by omega, (World.cell?_alloc_mark w _ _ (0, 0) 1).trans rfl, (World.frozen?_alloc_mark w _ _ 0 0 1).trans rfl, _, 2000, cap, bs.take 2000, (World.cell?_alloc_mark w _ _ (0, 0) 0).trans rfl, by omega, by simp; omega, fun z hz => h2 z (List.mem_of_mem_take hz), fun _ => ⟨b, off, rfl, hbw, fun j hj => ?_⟩⟩
      rw [List.getElem?_take_of_lt hj]
      exact (hB.cell (p := ⟨b, off + j, none⟩) hbw).trans (hc j (by omega))
    clear h2 h4 hc
    go_enter Try.func54, Try.ntmps54
    go_wp2
    go_ret
    exact ⟨rfl, HR.out, (Below.refl _ w).alloc (Nat.le_refl _) _⟩
  · obtain ⟨h1, h2, h4⟩ := h
    have HR : Hid (Rd (w.alloc (.cells #[.slice a len cap, .int .i64 0] 88)) w.heap.size 0) := by
      have hB : Below w.heap.size w (w.alloc (.cells #[.slice a len cap, .int .i64 0] 88)) := (Below.refl _ w).alloc (Nat.le_refl _) _
      refine ⟨by simp, by omega, (World.cell?_alloc_mark w _ _ (0, 0) 1).trans rfl, (World.frozen?_alloc_mark w _ _ 0 0 1).trans rfl, _, len, cap, bs, (World.cell?_alloc_mark w _ _ (0, 0) 0).trans rfl, by omega, h1, h2, fun hp => ?_⟩
      obtain ⟨b, off, e, hbw, hc⟩ := h4 hp
      exact ⟨b, off, e, hbw, fun j hj => (hB.cell (p := ⟨b, off + j, none⟩) hbw).trans (hc j hj)⟩
    clear h2 h4
    go_enter Try.func54, Try.ntmps54
    go_wp2
    go_ret
    exact ⟨rfl, HR.out, (Below.refl _ w).alloc (Nat.le_refl _) _⟩

end Go.Proofs.Ytbcemgmfkddafaa

namespace Go.Proofs.Ytbcemgmfkddafaa
open Go.RowKit

/-- append to a slice of the call's own, as one step of a region that draws. -/
theorem step_append_own {P : Program} {ops : Array Oper} {o : Oper} {a : Act} {w : World} {K : Act → World → Prop} {Q : Exit → Act → World → Prop} {E : Prop}
    (hg : o.guard = none) (s x : Operand) (t : TypeId) (ho : o.op = .call { callee := .builtin .append, args := #[s, x], argTypes := #[t, t] })
    (base : Nat) (e : TypeId) (i : TypeInfo) (z : Value) (size bytes : Nat) (ht : P.underlying t = some (.slice e)) (hi : P.info? e = some i) (hz : i.zero = some z)
    (hsize : i.size = size) (hby : i.bytes = bytes) (hzs : z.cells.size = size) (hsz : 0 < size)
    (v : Value) (n : Nat) (xs : List Value) (hs : a.eval s = v) (hown : w.ownsRow base e size v n xs)
    (ad : Addr) (m c : Nat) (news : List Value) (hx : a.eval x = .slice (some ad) m c) (hl : news.length = m * size) (hnews : ∀ j u, news[j]? = some u → w.cell? (ad.add j) = some u) (h1 : ∀ u ∈ news, u.oneCell' = true)
    (h63 : n + m ≤ maxLen) (hbytes : (n + m) * bytes ≤ 140737488355328) (hbase : base ≤ w.heap.size)
    (h : ∀ v' w', w'.ownsRow base e size v' (n + m) (xs ++ news) → w.grownBy w' v.ownBlock → (v' = .slice none 0 0 ↔ v = .slice none 0 0 ∧ m = 0) → K (a.put o.dst v') w') :
    if Region.wanted o (yielded ops a.tmps) = true then Oper.wp P o a w K Q else E := by
  have hw : Region.wanted o (yielded ops a.tmps) = true := by simp [Region.wanted, hg]
  rw [if_pos hw]
  exact wp_append_own w s x t ho base e i z size bytes ht hi hz hsize hby hzs hsz v n xs hs hown ad m c news hx hl hnews h1 h63 hbytes hbase h

theorem one_slice (a : Option Addr) (l c : Nat) : ∀ u ∈ [Value.slice a l c], u.oneCell' = true := by simp [Value.oneCell']
theorem one_cell {w : World} {g : Nat} {v : Value} (h : w.cell? ⟨g, 0, none⟩ = some v) : ∀ j u, [v][j]? = some u → w.cell? ((⟨g, 0, none⟩ : Addr).add j) = some u := by
  intro j u hu
  cases j with
  | zero =>
    cases hu
    simpa [Addr.add] using h
  | succ j => simp at hu

theorem own_cells {w : World} {base g n c : Nat} {zs : List Int} (h : w.ownsRow base 3 1 (.slice (some ⟨g, 0, none⟩) n c) n (zs.map (Value.int .i64))) : ∀ j u, (zs.map (Value.int .i64))[j]? = some u → w.cell? ((⟨g, 0, none⟩ : Addr).add j) = some u := by
  intro j u hu
  have hl := h.1
  have hj : j < n := by
    rcases Nat.lt_or_ge j n with h1 | h1
    · exact h1
    · rw [List.getElem?_eq_none (by omega)] at hu; cases hu
  rw [add_spot, Nat.zero_add, h.cellAt j (by omega)]
  exact hu
theorem ints_one' (zs : List Int) : ∀ u ∈ zs.map (Value.int .i64), u.oneCell' = true := by
  intro u hu
  obtain ⟨z, _, rfl⟩ := List.mem_map.1 hu
  simp [Value.oneCell']

end Go.Proofs.Ytbcemgmfkddafaa

namespace Go.Proofs.Ytbcemgmfkddafaa
open Go.RowKit

theorem ints_one (zs : List Int) : ∀ u ∈ zs.map (Value.int .i64), u.oneCell' = true := by
  intro u hu
  obtain ⟨z, _, rfl⟩ := List.mem_map.1 hu
  simp [Value.oneCell']

/-- The cells behind a piece of a slice of ints: from off + p on, the first m of what is left. -/
theorem piece_cells {w : World} {b off len : Nat} {zs : List Int} (hz : zs.length = len) (hc : ∀ j, j < len → w.cell? ⟨b, off + j, none⟩ = some (.int .i64 (zs[j]?.getD 0))) (p m q : Nat) (hpm : p + m ≤ len) (hq : q = off + p) :
    ∀ j u, (((zs.drop p).take m).map (Value.int .i64))[j]? = some u → w.cell? ((⟨b, q, none⟩ : Addr).add j) = some u := by
  intro j u hj
  have hjm : j < m := by
    rcases Nat.lt_or_ge j m with h | h
    · exact h
    · rw [List.getElem?_eq_none (by simp; omega)] at hj; cases hj
  have hadd : (⟨b, q, none⟩ : Addr).add j = ⟨b, off + (p + j), none⟩ := by
    subst hq
    by_cases h : j = 0
    · subst h; simp [Addr.add]
    · simp [Addr.add, h]; omega
  rw [hadd, hc (p + j) (by omega)]
  rw [List.getElem?_map, List.getElem?_take_of_lt hjm, List.getElem?_drop] at hj
  have hlt : p + j < zs.length := by omega
  rw [List.getElem?_eq_getElem hlt] at hj ⊢
  simpa using hj

/-- .. all that is left from p on. -/
theorem piece_rest {w : World} {b off len : Nat} {zs : List Int} (hz : zs.length = len) (hc : ∀ j, j < len → w.cell? ⟨b, off + j, none⟩ = some (.int .i64 (zs[j]?.getD 0))) (p q : Nat) (hp : p ≤ len) (hq : q = off + p) :
    ∀ j u, ((zs.drop p).map (Value.int .i64))[j]? = some u → w.cell? ((⟨b, q, none⟩ : Addr).add j) = some u := by
  have h := piece_cells hz hc p (len - p) q (by omega) hq
  have e : (zs.drop p).take (len - p) = zs.drop p := List.take_of_length_le (by simp; omega)
  rwa [e] at h
theorem rest_none {zs : List Int} {p : Nat} (hp : zs.length ≤ p) : ∀ (j : Nat) (u : Value), ((zs.drop p).map (Value.int .i64))[j]? = some u → False := by
  intro j u h
  rw [List.drop_of_length_le hp] at h
  simp at h
theorem joined {w : World} {base n c : Nat} {a : Option Addr} {A B : List Int} (h : w.ownsRow base 3 1 (.slice a n c) n (A.map (Value.int .i64) ++ B.map (Value.int .i64))) (hn : n ≤ 1048600) : IsInts w a n c (A ++ B) := by
  refine IsInts.of_owned (base := base) ?_ hn
  rw [List.map_append]
  exact h

/-- An append to a new slice leaves the cells of an older block as they were. -/
theorem kept_cells {w w5 : World} {t : TypeId} {g off len n c : Nat} {zs : List Int} (hg : g < w.heap.size) (h : (w.alloc (.cells #[] t)).drew.grownBy w5 (Value.slice (some ⟨w.heap.size, 0, none⟩) n c).ownBlock)
    (hc : ∀ j, j < len → w.cell? ⟨g, off + j, none⟩ = some (.int .i64 (zs[j]?.getD 0))) : ∀ j, j < len → w5.cell? ⟨g, off + j, none⟩ = some (.int .i64 (zs[j]?.getD 0)) := fun j hj =>
  (World.cell?_of_block (w := w) ((h.block g (by show g < (w.alloc _).heap.size; simp; omega) (fun e => by
    have : (some g : Option Nat) = some w.heap.size := e
    injection this with e2
    omega)).trans (Below.heap_alloc w _ g hg))).trans (hc j hj)
theorem kept_below {w w5 : World} {t : TypeId} {n c : Nat} (h : (w.alloc (.cells #[] t)).drew.grownBy w5 (Value.slice (some ⟨w.heap.size, 0, none⟩) n c).ownBlock) : Below w.heap.size w w5 :=
  ((Below.refl w.heap.size w).alloc (Nat.le_refl _) _).drew.grown h (by show w.heap.size ≤ (w.alloc _).heap.size; simp) (fun k e => by
    have : (some w.heap.size : Option Nat) = some k := e
    injection this with e2
    omega)

end Go.Proofs.Ytbcemgmfkddafaa

namespace Go.Proofs.Ytbcemgmfkddafaa
open Go.RowKit

/-- The blocks of two slices are not the same. -/
def Apart (v v' : Value) : Prop := ∀ j, v.ownBlock = some j → v'.ownBlock ≠ some j
theorem kept_apart {w w' : World} {base n size : Nat} {e : TypeId} {v u : Value} {xs : List Value} (h : w.ownsRow base e size v n xs) (hg : w.grownBy w' u.ownBlock) (ha : Apart u v) : w'.ownsRow base e size v n xs := by
  refine h.kept hg ?_
  cases hb : v.ownBlock with
  | none => exact .inl rfl
  | some j => right; intro e2; exact ha j e2.symm hb
theorem lotsRow_low {w : World} {base base' n size : Nat} {e : TypeId} {v : Value} {xs : List Value} (h : w.ownsRow base e size v n xs) (hb : base' ≤ base) : w.ownsRow base' e size v n xs := by
  refine ⟨h.1, ?_⟩
  rcases h.2 with hn | ⟨g, cap, cur, h1, h2, h3⟩
  · exact .inl hn
  · exact .inr ⟨g, cap, cur, h1, Nat.le_trans hb h2, h3⟩
theorem owned_at {w : World} {base n : Nat} {a : Option Addr} {cap : Nat} {xs : List Value} (h : w.ownsRow base 3 1 (.slice a n cap) n xs) (hn : 0 < n) : ∃ g, a = some ⟨g, 0, none⟩ ∧ g < w.heap.size ∧ n ≤ cap ∧ cap ≤ maxLen := by
  rcases h.2 with ⟨_, e0⟩ | ⟨g, c, cur, e, _, hg, h1, h2, _⟩
  · omega
  · injection e with e1 _ e3
    subst e3
    exact ⟨g, e1, (Array.getElem?_eq_some_iff.1 hg).1, h1, h2⟩
theorem erase_parts (rest : List Int) (k : Nat) : rest.take k ++ rest.drop (k + 1) = rest.eraseIdx k := (List.eraseIdx_eq_take_drop_succ rest k).symm

/-- The length of a slice's value. -/
def sliceLen : Value → Nat
  | .slice _ n _ => n
  | _ => 0

/-- What the drawing loop keeps: those that are left, the lots drawn, in two blocks of the call's own. -/
def LotInv (w : World) (k s : Nat) (sv rv lv : Value) (wr : World) : Prop := ∃ (sd : Nat) (rest out : List Int) (a : Option Addr) (cap : Nat) (a2 : Option Addr) (cap2 : Nat), sd ≤ 999 ∧ sv = .int .i64 (sd : Int) ∧ rv = .slice a rest.length cap ∧ lv = .slice a2 out.length cap2 ∧ rest.length ≤ 5 ∧ out.length + rest.length = k ∧
  Hid (out ++ lotR rest sd = lotsOf k s) ∧ Hid (wr.ownsRow w.heap.size 3 1 (.slice a rest.length cap) rest.length (rest.map (Value.int .i64))) ∧ Hid (wr.ownsRow w.heap.size 3 1 (.slice a2 out.length cap2) out.length (out.map (Value.int .i64))) ∧ Hid (Apart (.slice a2 out.length cap2) (.slice a rest.length cap)) ∧ Below w.heap.size w wr

set_option maxRecDepth 100000 in
set_option maxHeartbeats 4000000 in
/-- **spec.LotsOf**, at a number of candidates and a seed in range. -/
theorem specLotsOf_yes (n s : Nat) (w : World) (hn1 : 1 ≤ n) (hn5 : n ≤ 5) (hs : s ≤ 999) :
    Calls Try.prog 78 #[.int .i64 (n : Int), .int .i64 (s : Int)] w fun e w' => ∃ a cap, e = .returned (.tuple #[.slice a n cap, .bool true]) ∧ w'.ownsRow w.heap.size 3 1 (.slice a n cap) n ((lotsOf n s).map (Value.int .i64)) ∧ Below w.heap.size w w' := by
  obtain ⟨i0, hi, hz0, hz1, hz2⟩ := info_parts int_info
  have H1 := Lib.hid (inB_yes (x := (n : Int)) (lo := 1) (hi := 5) (by omega) (by omega))
  have H2 := Lib.hid (inB_yes (x := (s : Int)) (lo := 0) (hi := 999) (by omega) (by omega))
  have HE0 := Lib.hid (World.ownsRow_lit (base := w.heap.size) (e := 3) (size := 1) w #[] 0 (Nat.le_refl _) (by unfold maxLen; omega) rfl)
  have HB0 : Below w.heap.size w (w.alloc (.cells #[] 3)) := (Below.refl _ w).alloc (Nat.le_refl _) _
  go_enter Try.func78, Try.ntmps78
  go_wp2_with fail
  refine (l6In_any _ _ _ _).mono ?_
  rintro e w' ⟨he, rfl⟩
  rw [H1.out] at he
  subst he
  go_wp2_with fail
  refine (l6In_any _ _ _ _).mono ?_
  rintro e w' ⟨he, rfl⟩
  rw [H2.out] at he
  subst he
  go_wp2
  go_loopw [6, 7] (fun rv iv wr => ∃ (k : Nat) (a : Option Addr) (cap : Nat), k ≤ n ∧ iv = .int .i64 (k : Int) ∧ rv = .slice a k cap ∧ Hid (wr.ownsRow w.heap.size 3 1 (.slice a k cap) k ((fromZero k).map (Value.int .i64))) ∧ Below w.heap.size w wr) (fun _ iv _ => n - (intOf iv).toNat)
  case atStart => exact ⟨0, _, _, Nat.zero_le _, rfl, rfl, HE0.out, HB0⟩
  case round =>
    obtain ⟨k, a, cap, hk, rfl, rfl, ho, hB⟩ := hrel
    by_cases hlt : k < n
    · go_wp2_with (at_builtin; refine wpList_append_own _ rfl _ _ 23 rfl w.heap.size 3 i0 (.int .i64 0) 1 8 Try.underlying23 hi hz0 hz1 hz2 rfl (by decide) _ _ _ rfl (ho.out.alloc _) ⟨wr.heap.size, 0, none⟩ 1 1 [.int .i64 (k : Int)] rfl rfl (cell_one_new _ _ _) (by simp [Value.oneCell']) (by unfold maxLen; omega) (by omega) (by have := hB.size; simp; omega) ?_; intro v' w4 hown' hgrow _; obtain ⟨a4, cap4, rfl⟩ := owns_slice hown')
      have hrow : ∀ j, (Value.slice a k cap).ownBlock = some j → w.heap.size ≤ j := fun j ej => (ho.out.lt j ej).1
      have hB4 := (hB.alloc hB.size (.cells #[.int .i64 (k : Int)] 3)).grown hgrow (by have := hB.size; simp; omega) (fun j e => hrow j e)
      have HO4 : Hid (w4.ownsRow w.heap.size 3 1 (.slice a4 (k + 1) cap4) (k + 1) ((fromZero (k + 1)).map (Value.int .i64))) := by
        unfold Hid; rw [fromZero_succ, List.map_append]; exact hown'
      clear hown' hgrow hrow
      go_wp2
      go_roundw
      case rel => exact ⟨k + 1, a4, cap4, by omega, by go_num, rfl, HO4.out, hB4⟩
      case measure => simp [intOf]; omega
    · obtain rfl : k = n := by omega
      have HR : Hid ((fromZero k).length = k) := fromZero_length k
      have HRE := Lib.hid (ho.out.alloc (.cells #[] 3))
      have hlt0 : Hid (∀ j, (Value.slice a k cap).ownBlock = some j → j < wr.heap.size) := fun j ej => (ho.out.lt j ej).2
      have hsz := hB.size
      have HOE := Lib.hid (World.ownsRow_lit (base := w.heap.size) (e := 3) (size := 1) wr #[] 0 hsz (by unfold maxLen; omega) rfl)
      have hB1 := hB.alloc hsz (.cells #[] 3)
      go_wp2
      go_loopw [1, 6, 8, 9] (fun sv rv lv kv wr => LotInv w k s sv rv lv wr) (fun _ rv _ _ _ => sliceLen rv)
      case atStart =>
        unfold LotInv
        refine ⟨s, fromZero k, [], a, cap, _, _, hs, rfl, by rw [HR.out], rfl, by rw [HR.out]; exact hn5, by rw [HR.out]; simp, ?_, ?_, HOE.out, ?_, hB1⟩
        · unfold Hid; rw [lotR_all]; rfl
        · unfold Hid; rw [HR.out]; exact HRE.out
        · intro j h1 h2
          have e1 : j < wr.heap.size := hlt0.out j (by rw [HR.out] at h2; exact h2)
          have h1 : some wr.heap.size = some j := h1
          injection h1 with h1
          omega
      case round =>
        clear HR HRE HOE hlt0 hB1 hsz ho hB
        obtain ⟨sd, rest, out, a, cap, a2, cap2, hsd, rfl, rfl, rfl, hr5, hsum, hall, ho, ho2, hap, hB⟩ := hrel
        by_cases hlt : 0 < rest.length
        · obtain ⟨g, rfl, hgw, hcap, hmx⟩ := owned_at ho.out hlt
          have hgt : decide (0 < (rest.length : Int)) = true := decide_eq_true (by omega)
          have hkz : ((rest.length : Int) == 0) = false := beq_eq_false_iff_ne.2 (by omega)
          obtain ⟨q, hqe⟩ : ∃ q, sd % rest.length = q := ⟨_, rfl⟩
          obtain ⟨d, hde⟩ : ∃ d, sd / rest.length = d := ⟨_, rfl⟩
          have hqk : q < rest.length := by rw [← hqe]; exact Nat.mod_lt sd hlt
          have hd9 : d ≤ sd := by rw [← hde]; exact Nat.div_le_self sd _
          have hq : ((sd : Int) % (rest.length : Int)) = (q : Int) := by rw [← hqe]; exact (Int.natCast_emod sd rest.length).symm
          have hdv : ((sd : Int) / (rest.length : Int)) = (d : Int) := by rw [← hde]; exact (Int.natCast_ediv sd rest.length).symm
          have HST := Lib.hid (lotR_step (rest := rest) rfl (by omega) sd)
          rw [hqe, hde] at HST
          have HEL := Lib.hid (erase_length (rest := rest) rfl hqk)
          have hcz := ho.out.cellAt q (by omega)
          obtain ⟨z, hz⟩ : ∃ z, rest[q]?.getD 0 = z := ⟨_, rfl⟩
          have HZ := Lib.hid hz
          have hcell : wr.cell? ⟨g, q, none⟩ = some (.int .i64 z) := by
            rw [hcz, ← hz]; simp [hqk]
          clear hcz hz hqe hde
          go_wp2_with (at_builtin; refine wpList_append_own _ rfl _ _ 23 rfl w.heap.size 3 i0 (.int .i64 0) 1 8 Try.underlying23 hi hz0 hz1 hz2 rfl (by decide) _ _ _ rfl (ho2.out.alloc _) ⟨wr.heap.size, 0, none⟩ 1 1 [.int .i64 z] rfl rfl (cell_one_new _ _ _) (by simp [Value.oneCell']) (by unfold maxLen; omega) (by omega) (by have := hB.size; simp; omega) ?_; intro v' w4 hown' hgrow _; obtain ⟨a4, cap4, rfl⟩ := owns_slice hown')
          have hrow : ∀ j, (Value.slice a2 out.length cap2).ownBlock = some j → w.heap.size ≤ j := fun j ej => (ho2.out.lt j ej).1
          have hB4 := (hB.alloc hB.size (.cells #[.int .i64 z] 3)).grown hgrow (by have := hB.size; simp; omega) (fun j e => hrow j e)
          have O3 : Hid (w4.ownsRow w.heap.size 3 1 (.slice (some ⟨g, 0, none⟩) rest.length cap) rest.length (rest.map (Value.int .i64))) := kept_apart (ho.out.alloc _) hgrow hap.out
          have HO4 : Hid (w4.ownsRow w.heap.size 3 1 (.slice a4 (out.length + 1) cap4) (out.length + 1) ((out ++ [z]).map (Value.int .i64))) := by
            unfold Hid; rw [List.map_append]; exact hown'
          have hg4 : g < w4.heap.size := (O3.out.lt g rfl).2
          have hcs : Hid (∀ j, j < rest.length → w4.cell? ⟨g, 0 + j, none⟩ = some (.int .i64 (rest[j]?.getD 0))) := fun j hj => by
            rw [Nat.zero_add, O3.out.cellAt j (by omega)]; simp [hj]
          have hE : Hid ((w4.alloc (.cells #[] 3)).drew.ownsRow w4.heap.size 3 1 (.slice (some ⟨w4.heap.size, 0, none⟩) 0 0) 0 []) := (World.ownsRow_lit (base := w4.heap.size) (e := 3) (size := 1) w4 #[] 0 (Nat.le_refl _) (by unfold maxLen; omega) rfl).drew
          clear hown' hgrow hrow ho ho2 hap hB hcell
          go_wp2
          have hqc : q ≤ cap := by omega
          have hq1 : q + 1 ≤ rest.length := by omega
          have hk1i : (q : Int) + 1 ≤ (rest.length : Int) := by omega
          have hk0 : (0 : Int) ≤ (q : Int) + 1 := by omega
          have hzci : (rest.length : Int) ≤ (cap : Int) := by omega
          have L1 : Hid (((rest.take q).map (Value.int .i64)).length = q * 1) := by unfold Hid; simp; omega
          have L2 : Hid (((rest.drop (q + 1)).map (Value.int .i64)).length = (rest.length - (q + 1)) * 1) := by unfold Hid; simp
          have P1 : Hid (∀ j u, ((rest.take q).map (Value.int .i64))[j]? = some u → (w4.alloc (.cells #[] 3)).drew.cell? ((⟨g, 0, none⟩ : Addr).add j) = some u) :=
            piece_cells (zs := rest) (len := rest.length) (off := 0) rfl (fun j hj => (((Below.refl w4.heap.size w4).alloc (Nat.le_refl _) _).drew.cell (p := ⟨g, 0 + j, none⟩) hg4).trans (hcs.out j hj)) 0 q 0 (by omega) rfl
          have M1 : 0 + q ≤ maxLen := by unfold maxLen; omega
          have N1 : (0 + q) * 8 ≤ 140737488355328 := by omega
          have S1 : w4.heap.size ≤ (w4.alloc (.cells #[] 3)).drew.heap.size := by simp
          have M2 : q + (rest.length - (q + 1)) ≤ maxLen := by unfold maxLen; omega
          have N2 : (q + (rest.length - (q + 1))) * 8 ≤ 140737488355328 := by omega
          have M2e : q + 0 ≤ maxLen := by unfold maxLen; omega
          have N2e : (q + 0) * 8 ≤ 140737488355328 := by omega
          by_cases hck : cap = q + 1
          · subst hck
            have hzl : rest.length ≤ q + 1 := by omega
            have L2e : Hid (((rest.drop (q + 1)).map (Value.int .i64)).length = 0 * 1) := by unfold Hid; simp; omega
            have PE := Lib.hid (rest_none hzl)
            have hkci : (q : Int) ≤ (q : Int) + 1 := by omega
            have hkcc : (q : Int) + 1 ≤ (q : Int) + 1 := by omega
            have hzk : (rest.length : Int) ≤ (q : Int) + 1 := by omega
            have hw1 : IntKind.i64.wrap ((q : Int) + 1) = (q : Int) + 1 := IntWalk.i64_in _ (by omega)
            have ht1 : ((q : Int) + 1).toNat = q + 1 := by omega
            go_region_law (first
              | (refine step_append_own (by rfl) _ _ _ (by rfl) w4.heap.size 3 i0 (.int .i64 0) 1 8 Try.underlying23 hi hz0 hz1 hz2 rfl Nat.one_pos (.slice (some ⟨w4.heap.size, 0, none⟩) 0 0) 0 [] (by rfl) hE.out ⟨g, 0, none⟩ q _ ((rest.take q).map (Value.int .i64)) (by rfl) L1.out P1.out (ints_one _) M1 N1 S1 ?_; intro v5 w5 hown5 hgrow5 _; simp only [Nat.zero_add, List.nil_append] at hown5; obtain ⟨a5, c5, rfl⟩ := owns_slice hown5; have C5 := Lib.hid (kept_cells hg4 hgrow5 hcs.out); have B5 := Lib.hid (kept_below hgrow5); have O5 := Lib.hid hown5; clear hown5 hgrow5)
              | (refine step_append_own (by rfl) _ _ _ (by rfl) w4.heap.size 3 i0 (.int .i64 0) 1 8 Try.underlying23 hi hz0 hz1 hz2 rfl Nat.one_pos (.slice a5 q c5) q ((rest.take q).map (Value.int .i64)) (by rfl) O5.out ⟨g, 0, none⟩ 0 _ ((rest.drop (q + 1)).map (Value.int .i64)) (by rfl) L2e.out (fun j u h => (PE.out j u h).elim) (ints_one _) M2e N2e B5.out.size ?_; intro v6 w6 hown6 hgrow6 _; obtain ⟨a6, c6, rfl⟩ := owns_slice hown6; have B6 := Lib.hid (B5.out.grown hgrow6 B5.out.size (fun j ej => (O5.out.lt j ej).1)); have X6 := Lib.hid hown6; clear hown6 hgrow6))
            all_goals
              clear hw1 ht1
              have O6 := Lib.hid (lotsRow_low (owns_under HO4.out B6.out) (Nat.le_refl _))
              have hB6 := hB4.trans (B6.out.mono hB4.size)
              have hap6 : Hid (Apart (.slice a4 (out.length + 1) cap4) (.slice a6 (q + 0) c6)) := by
                intro j h1 h2
                have e1 := (HO4.out.lt j h1).2
                have e2 := (X6.out.lt j h2).1
                omega
              have X7 := Lib.hid (lotsRow_low X6.out hB4.size)
              have hinv : LotInv w k s (.int .i64 (d : Int)) (.slice a6 (q) c6) (.slice a4 (out.length + 1) cap4) w6 := by
                unfold LotInv
                refine ⟨d, rest.eraseIdx q, out ++ [z], a6, c6, a4, cap4, by omega, rfl, ?g1, ?g2, ?g3, ?g4, ?g5, ?g6, ?g7, ?g8, hB6⟩
                case g1 => rw [HEL.out, show rest.length - 1 = q by omega]
                case g2 => rw [List.length_append]; rfl
                case g3 => rw [HEL.out]; omega
                case g4 => rw [HEL.out, List.length_append, List.length_singleton]; omega
                case g5 => unfold Hid; rw [← hall.out, HST.out, HZ.out, List.append_assoc]; rfl
                case g6 => unfold Hid; rw [HEL.out, ← erase_parts, List.map_append]; have := X7.out; rwa [show rest.length - 1 = q + 0 by omega]
                case g7 => unfold Hid; rw [List.length_append]; exact O6.out
                case g8 => unfold Hid; rw [HEL.out, List.length_append, show rest.length - 1 = q + 0 by omega]; exact hap6.out
              have HINV := Lib.hid hinv
              have hms : q < rest.length := by omega
              clear hinv X6 X7 hap6 O6 B6
              go_wp2
              go_roundw
              case rel => exact ⟨_, _, _, HINV.out, rfl, rfl, rfl⟩
              case measure => simpa [sliceLen] using hms
          · have hkci : (q : Int) ≤ (cap : Int) := by omega
            have hkcc : (q : Int) + 1 ≤ (cap : Int) := by omega
            have hck2 : ¬ cap = q := by omega
            have hw1 : IntKind.i64.wrap ((q : Int) + 1) = (q : Int) + 1 := IntWalk.i64_in _ (by omega)
            have ht1 : ((q : Int) + 1).toNat = q + 1 := by omega
            go_region_law (first
              | (refine step_append_own (by rfl) _ _ _ (by rfl) w4.heap.size 3 i0 (.int .i64 0) 1 8 Try.underlying23 hi hz0 hz1 hz2 rfl Nat.one_pos (.slice (some ⟨w4.heap.size, 0, none⟩) 0 0) 0 [] (by rfl) hE.out ⟨g, 0, none⟩ q _ ((rest.take q).map (Value.int .i64)) (by rfl) L1.out P1.out (ints_one _) M1 N1 S1 ?_; intro v5 w5 hown5 hgrow5 _; simp only [Nat.zero_add, List.nil_append] at hown5; obtain ⟨a5, c5, rfl⟩ := owns_slice hown5; have C5 := Lib.hid (kept_cells hg4 hgrow5 hcs.out); have B5 := Lib.hid (kept_below hgrow5); have O5 := Lib.hid hown5; clear hown5 hgrow5)
              | (refine step_append_own (by rfl) _ _ _ (by rfl) w4.heap.size 3 i0 (.int .i64 0) 1 8 Try.underlying23 hi hz0 hz1 hz2 rfl Nat.one_pos (.slice a5 q c5) q ((rest.take q).map (Value.int .i64)) (by rfl) O5.out ⟨g, q + 1, none⟩ (rest.length - (q + 1)) _ ((rest.drop (q + 1)).map (Value.int .i64)) (by rfl) L2.out (piece_rest rfl C5.out (q + 1) (q + 1) hq1 (Nat.zero_add _).symm) (ints_one _) M2 N2 B5.out.size ?_; intro v6 w6 hown6 hgrow6 _; obtain ⟨a6, c6, rfl⟩ := owns_slice hown6; have B6 := Lib.hid (B5.out.grown hgrow6 B5.out.size (fun j ej => (O5.out.lt j ej).1)); have X6 := Lib.hid hown6; clear hown6 hgrow6))
            all_goals
              clear hw1 ht1
              obtain ⟨m, hm⟩ : ∃ m, q + (rest.length - (q + 1)) = m := ⟨_, rfl⟩
              rw [hm] at X6 ⊢
              have hmr : rest.length - 1 = m := by omega
              have hms : m < rest.length := by omega
              have O6 := Lib.hid (lotsRow_low (owns_under HO4.out B6.out) (Nat.le_refl _))
              have hB6 := hB4.trans (B6.out.mono hB4.size)
              have hap6 : Hid (Apart (.slice a4 (out.length + 1) cap4) (.slice a6 m c6)) := by
                intro j h1 h2
                have e1 := (HO4.out.lt j h1).2
                have e2 := (X6.out.lt j h2).1
                omega
              have X7 := Lib.hid (lotsRow_low X6.out hB4.size)
              have hinv : LotInv w k s (.int .i64 (d : Int)) (.slice a6 m c6) (.slice a4 (out.length + 1) cap4) w6 := by
                unfold LotInv
                refine ⟨d, rest.eraseIdx q, out ++ [z], a6, c6, a4, cap4, by omega, rfl, ?g1, ?g2, ?g3, ?g4, ?g5, ?g6, ?g7, ?g8, hB6⟩
                case g1 => rw [HEL.out, hmr]
                case g2 => rw [List.length_append]; rfl
                case g3 => rw [HEL.out]; omega
                case g4 => rw [HEL.out, List.length_append, List.length_singleton]; omega
                case g5 => unfold Hid; rw [← hall.out, HST.out, HZ.out, List.append_assoc]; rfl
                case g6 => unfold Hid; rw [HEL.out, ← erase_parts, List.map_append]; have := X7.out; rwa [hmr]
                case g7 => unfold Hid; rw [List.length_append]; exact O6.out
                case g8 => unfold Hid; rw [HEL.out, List.length_append, hmr]; exact hap6.out
              have HINV := Lib.hid hinv
              clear hinv X6 X7 hap6 O6 B6 hmr hm hck2 hkci hkcc hck hzci hk1i hk0 M1 N1 S1 M2 N2 M2e N2e L1 L2 P1 hqc hq1
              simp only [List.getElem_toArray, List.getElem_cons_succ, List.getElem_cons_zero, Act.put, List.setIfInBounds_toArray, List.set_cons_succ, List.set_cons_zero]
              go_wp2
              go_roundw
              case rel => exact HINV.out
              case measure => simpa [sliceLen] using hms
        · have hr0 : rest = [] := List.length_eq_zero_iff.1 (by omega)
          subst hr0
          have HL : Hid (out = lotsOf k s) := by
            have h2 := hall.out
            rw [lotR_nil, List.append_nil] at h2
            exact h2
          have hok : out.length = k := by simpa using hsum
          go_wp2
          go_ret2
          refine ⟨a2, cap2, by first | rfl | (rw [← hok]; rfl), ?_, hB⟩
          rw [← HL.out, ← hok]
          exact ho2.out

set_option maxHeartbeats 1000000 in
/-- **spec.LotsOf**, at arguments out of range. -/
theorem specLotsOf_no (n s : Int) (w : World) (h : okLots n s = false) :
    Calls Try.prog 78 #[.int .i64 n, .int .i64 s] w fun e w' => e = .returned (.tuple #[.slice (some ⟨w.heap.size, 0, none⟩) 0 0, .bool false]) ∧ w' = w.alloc (.cells #[] 3) := by
  cases hn : inB n 1 5
  · have HN := Lib.hid hn; clear hn h
    go_enter Try.func78, Try.ntmps78
    go_wp2_with fail
    refine (l6In_any _ _ _ _).mono ?_
    rintro e w' ⟨he, rfl⟩
    rw [HN.out] at he
    subst he
    go_wp2
    go_ret2
    exact ⟨rfl, rfl⟩
  · have hs : inB s 0 999 = false := by rw [okLots, hn, Bool.true_and] at h; exact h
    have HN := Lib.hid hn
    have HS := Lib.hid hs; clear hn hs h
    go_enter Try.func78, Try.ntmps78
    go_wp2_with fail
    refine (l6In_any _ _ _ _).mono ?_
    rintro e w' ⟨he, rfl⟩
    rw [HN.out] at he
    subst he
    go_wp2_with fail
    refine (l6In_any _ _ _ _).mono ?_
    rintro e w' ⟨he, rfl⟩
    rw [HS.out] at he
    subst he
    go_wp2
    go_ret2
    exact ⟨rfl, rfl⟩

/-- **spec.LotsOf**. -/
theorem specLotsOf_any (n s : Int) (w : World) :
    Calls Try.prog 78 #[.int .i64 n, .int .i64 s] w (Told w (lotsI n s) (okLots n s)) := by
  cases h : okLots n s
  · refine (specLotsOf_no n s w h).mono ?_
    rintro e w' ⟨rfl, rfl⟩
    rw [lotsI_no h]
    exact ⟨_, 0, rfl, World.ownsRow_lit w #[] 0 (Nat.le_refl _) (by unfold maxLen; omega) rfl, (Below.refl _ w).alloc (Nat.le_refl _) _⟩
  · have hh := okLots_of h
    obtain ⟨m, rfl⟩ := Int.eq_ofNat_of_zero_le (show 0 ≤ n by omega)
    obtain ⟨q, rfl⟩ := Int.eq_ofNat_of_zero_le (show 0 ≤ s by omega)
    refine (specLotsOf_yes m q w (by omega) (by omega) (by omega)).mono ?_
    rintro e w' ⟨a, cap, rfl, ho, hb⟩
    have hl : (lotsI (m : Int) (q : Int)).length = m := by rw [lotsI_yes h, lotsOf_length, Int.toNat_natCast]
    refine ⟨a, cap, by rw [hl], ?_, hb⟩
    rw [hl, lotsI_yes h]; exact ho

/-- **spec.LotsOf**, its answer named. -/
theorem specLotsOf_as (n s : Int) (pl : List Int) (ok : Bool) (w : World) (h1 : lotsI n s = pl) (h2 : okLots n s = ok) :
    Calls Try.prog 78 #[.int .i64 n, .int .i64 s] w (Told w pl ok) := by
  subst h1; subst h2; exact specLotsOf_any n s w

end Go.Proofs.Ytbcemgmfkddafaa

namespace Go.Proofs.Ytbcemgmfkddafaa
open Go.RowKit

attribute [local go_sem] Oper.semAt_some

theorem nextI_no {vs gs : List Int} {m : Int} {lots : List Int} (h : okN vs gs m lots = false) : nextI vs gs m lots = -1 := by rw [nextI, h]; rfl
theorem divL_no {vs : List Int} {s m : Int} {lots : List Int} (h : okD vs s m lots = false) : divL vs s m lots = [] := by rw [divL, h]; rfl

end Go.Proofs.Ytbcemgmfkddafaa
