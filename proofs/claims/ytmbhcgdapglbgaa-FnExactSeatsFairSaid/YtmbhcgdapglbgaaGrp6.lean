/-
  What a slice of ints that the call owns says to a reader; lists that are filled, or compared. No condition but what each theorem says.
  A list that a call returns with a bool (Told); a block of the call's own is kept. No condition but what each theorem says.
  The reader that the drawn statements use (l6Open, pick): what it does to memory, and in which range its numbers are.
  The reader of drawn inputs: what is kept while it goes on (Step), and l6Open: a new reader. No condition but what each theorem says.
  Step laws: append to a slice of the call's own, in a region that draws its order. No condition but what each theorem says.
  Parts of a list that lies in memory: what is appended of it. No condition but what each theorem says.
-/
import Derived.Test.YtmbhcgdapglbgaaGrp1
import Derived.Laws.OwnMore
import Derived.OwnWalk
import Derived.Deep.Onto
import Derived.Deep.RegionLaw
import Derived.Deep.AppendLies
import Derived.Deep.RegionWith
import Derived.Laws.IdiomStrings
namespace Go.Proofs.Ytmbhcgdapglbgaa
open Go.RowKit

theorem int_info : (Try.prog.info? 3).map (fun i => (i.zero, i.size, i.bytes)) = some (some (.int .i64 0), 1, 8) := by kernel_rfl

/-- What a row that is owned says to a reader. -/
theorem IsInts.of_owns {w : World} {base g len cap : Nat} {zs : List Int} (h : w.ownsRow base 3 1 (.slice (some ⟨g, 0, none⟩) len cap) len (zs.map (Value.int .i64))) (hl : len ≤ 1048600) : IsInts w (some ⟨g, 0, none⟩) len cap zs := by
  have hlen : zs.length = len := by have := h.1; simpa using this
  have hcap : len ≤ cap := by
    rcases h.2 with ⟨e, _⟩ | ⟨_, c, _, e, _, _, hc, _⟩
    · cases e
    · injection e with _ _ e3; omega
  refine ⟨hlen, hcap, hl, fun hp => ⟨g, 0, rfl, ?_, fun j hj => ?_⟩⟩
  · exact (h.lt g rfl).2
  · rw [Nat.zero_add, h.cellAt j (by omega)]
    simp [show j < zs.length from by omega]

theorem owns_slice {w : World} {base : Nat} {e : TypeId} {size n : Nat} {v : Value} {xs : List Value} (h : w.ownsRow base e size v n xs) : ∃ a cap, v = .slice a n cap := by
  rcases h.2 with ⟨rfl, rfl⟩ | ⟨g, c, _, rfl, _⟩
  · exact ⟨none, 0, rfl⟩
  · exact ⟨_, c, rfl⟩
theorem IsInts.of_owned {w : World} {base len cap : Nat} {a : Option Addr} {zs : List Int} (h : w.ownsRow base 3 1 (.slice a len cap) len (zs.map (Value.int .i64))) (hl : len ≤ 1048600) : IsInts w a len cap zs := by
  rcases h.2 with ⟨e, e0⟩ | ⟨g, c, _, e, _⟩
  · subst e0
    have hz : zs = [] := by have := h.1; simpa using this
    subst hz
    exact ⟨rfl, Nat.zero_le _, hl, fun hp => by omega⟩
  · injection e with e1 e2 e3
    subst e1
    exact IsInts.of_owns h hl

/-- The first k of zs, then zeros: what toIntS has written when k rounds are over. -/
def fillTo (zs : List Int) (len k : Nat) : List Int := zs.take k ++ List.replicate (len - k) 0
theorem fillTo_step (zs : List Int) (len k : Nat) (hz : zs.length = len) (hk : k < len) : ((fillTo zs len k).map (Value.int .i64)).set k (.int .i64 (zs[k]?.getD 0)) = (fillTo zs len (k + 1)).map (Value.int .i64) := by
  have e : len - k = (len - (k + 1)) + 1 := by omega
  unfold fillTo
  rw [e, List.replicate_succ, List.take_succ_eq_append_getElem (by omega)]
  have hl : ((zs.take k).map (Value.int .i64)).length = k := by simp; omega
  simp only [List.map_append, List.map_cons, List.append_assoc, List.cons_append, List.nil_append]
  rw [List.set_append_right _ _ (by omega), hl, Nat.sub_self, List.set_cons_zero]
  simp [show k < zs.length from by omega]
theorem fillTo_all (zs : List Int) (len : Nat) (hz : zs.length = len) : fillTo zs len len = zs := by simp [fillTo, ← hz]

/-- Two lists of ints are equal. -/
def eqB (zs ys : List Int) : Bool := decide (zs = ys)
theorem eqB_self (zs : List Int) : eqB zs zs = true := by simp [eqB]
theorem take_step (zs ys : List Int) (k : Nat) (hz : k < zs.length) (hy : k < ys.length) (h : zs.take k = ys.take k) (he : zs[k]?.getD 0 = ys[k]?.getD 0) : zs.take (k + 1) = ys.take (k + 1) := by
  rw [List.take_succ_eq_append_getElem hz, List.take_succ_eq_append_getElem hy, h]
  simp [hz, hy] at he
  rw [he]
theorem take_part (zs ys : List Int) (k : Nat) (he : (zs[k]?.getD 0 == ys[k]?.getD 0) = false) : eqB zs ys = false := by
  simp only [eqB, decide_eq_false_iff_not]
  rintro rfl
  simp at he

end Go.Proofs.Ytmbhcgdapglbgaa

namespace Go.Proofs.Ytmbhcgdapglbgaa
open Go.RowKit

theorem owns_under {w w' : World} {base n size : Nat} {e : TypeId} {v : Value} {xs : List Value} (h : w.ownsRow base e size v n xs) (hb : Below w.heap.size w w') : w'.ownsRow base e size v n xs := by
  refine h.kept (row := none) ⟨hb.os, hb.tape, hb.output, hb.size, fun k hk _ => hb.block k hk⟩ ?_
  cases v.ownBlock <;> simp

/-- What is told of a list that is returned with a bool. -/
def Told (w : World) (pl : List Int) (ok : Bool) (e : Ending) (w' : World) : Prop := ∃ a cap, e = .returned (.tuple #[.slice a pl.length cap, .bool ok]) ∧ w'.ownsRow w.heap.size 3 1 (.slice a pl.length cap) pl.length (pl.map (Value.int .i64)) ∧ Below w.heap.size w w'

theorem zeros_made (n : Nat) : (madeCells (Value.int .i64 0).cells (n * 1)).toList = (List.replicate n (0 : Int)).map (Value.int .i64) := by
  rw [show (Value.int .i64 0).cells = #[.int .i64 0] from rfl, toList_madeCells_one]; simp
theorem map_set_int (l : List Int) (i : Nat) (z : Int) : (l.map (Value.int .i64)).set i (.int .i64 z) = (l.set i z).map (Value.int .i64) := by rw [List.map_set]

end Go.Proofs.Ytmbhcgdapglbgaa

namespace Go.Proofs.Ytmbhcgdapglbgaa
open Go.RowKit

/-- Block R is a reader that stands at place p. -/
def Rd (w : World) (R p : Nat) : Prop := R < w.heap.size ∧ p ≤ 1000000 ∧ w.cell? ⟨R, 1, none⟩ = some (.int .i64 (p : Int)) ∧ w.frozen? ⟨R, 1, none⟩ = false ∧
  ∃ (a : Option Addr) (len cap : Nat) (bs : List Int), w.cell? ⟨R, 0, none⟩ = some (.slice a len cap) ∧ len ≤ 2000 ∧ bs.length = len ∧ (∀ z ∈ bs, 0 ≤ z ∧ z ≤ 255) ∧
    (0 < len → ∃ b off, a = some ⟨b, off, none⟩ ∧ b < R ∧ ∀ j, j < len → w.cell? ⟨b, off + j, none⟩ = some (.int .u8 (bs[j]?.getD 0)))

theorem Rd.below {w w' : World} {R p : Nat} (h : Rd w R p) (hb : Below w.heap.size w w') : Rd w' R p := by
  obtain ⟨h1, h2, h3, h4, a, len, cap, bs, h5, h6, h7, h8, h9⟩ := h
  refine ⟨Nat.lt_of_lt_of_le h1 hb.size, h2, (hb.cell (p := ⟨R, 1, none⟩) h1).trans h3, (hb.frozen (p := ⟨R, 1, none⟩) h1).trans h4, a, len, cap, bs, (hb.cell (p := ⟨R, 0, none⟩) h1).trans h5, h6, h7, h8, fun hl => ?_⟩
  obtain ⟨b, off, e, hbR, hc⟩ := h9 hl
  exact ⟨b, off, e, hbR, fun j hj => (hb.cell (p := ⟨b, off + j, none⟩) (Nat.lt_trans hbR h1)).trans (hc j hj)⟩

/-- A step of the reader: its place alone is written. -/
def Step (R : Nat) (w w' : World) : Prop := w.grownBy w' (some R)
theorem Step.of_set {w : World} {R : Nat} {v : Value} (q : Nat) : Step R w ((w.setCell ⟨R, 1, none⟩ v).drewN q) :=
  ⟨rfl, rfl, rfl, by simp [World.setCell], fun k _ hk => Below.heap_setCell _ _ _ _ (fun e => hk (by rw [e]))⟩
theorem Step.below {R : Nat} {w w' : World} (h : Step R w w') {B : Nat} (hR : B ≤ R) (hB : B ≤ w.heap.size) : Below B w w' := (Below.refl B w).grown h hB (fun k e => by cases e; exact hR)

theorem Rd.stepped {w : World} {R p : Nat} (h : Rd w R p) (q : Nat) (hp : p + 1 ≤ 1000000) : Rd ((w.setCell ⟨R, 1, none⟩ (.int .i64 ((p : Int) + 1))).drewN q) R (p + 1) := by
  obtain ⟨h1, h2, h3, h4, a, len, cap, bs, h5, h6, h7, h8, h9⟩ := h
  refine ⟨by simpa [World.setCell] using h1, hp, ?_, ?_, a, len, cap, bs, ?_, h6, h7, h8, fun hl => ?_⟩
  · rw [World.cell?_drewN, World.cell?_setCell_same' _ _ _ (by rw [h3]; rfl)]; rfl
  · rw [World.frozen?_drewN, World.frozen?_setCell]; exact h4
  · rw [World.cell?_drewN, World.cell?_setCell_other _ _ _ _ (by intro e; injection e with _ e2; exact absurd e2 (by decide))]; exact h5
  · obtain ⟨b, off, e, hbR, hc⟩ := h9 hl
    refine ⟨b, off, e, hbR, fun j hj => ?_⟩
    rw [World.cell?_drewN, World.cell?_setCell_other _ _ _ _ (by intro e'; injection e' with e1; omega)]
    exact hc j hj

theorem bits_xor_i64 (a b : Nat) (ha : a < 4611686018427387904) (hb : b < 4611686018427387904) : bits .xor .i64 (a : Int) (b : Int) = ((a ^^^ b : Nat) : Int) := by
  have hx : a ^^^ b < 2 ^ 62 := Nat.xor_lt_two_pow (by omega) (by omega)
  unfold bits
  show IntKind.i64.wrap (((BitVec.ofInt 64 (a : Int)) ^^^ (BitVec.ofInt 64 (b : Int))).toNat : Int) = _
  rw [BitVec.toNat_xor, ofInt_u64 a (by omega), ofInt_u64 b (by omega)]
  exact IntWalk.i64_in _ (by omega)
theorem pick_range (E n : Int) (h0 : 0 ≤ E) (h1 : E < 4611686018427387904) (hn : 1 ≤ n) : 0 ≤ (bits .xor .i64 E (E / 64)).tmod n ∧ (bits .xor .i64 E (E / 64)).tmod n < n := by
  obtain ⟨x, rfl⟩ := Int.eq_ofNat_of_zero_le h0
  have e : ((x : Int) / 64) = ((x / 64 : Nat) : Int) := by omega
  rw [e, bits_xor_i64 x (x / 64) (by omega) (by omega)]
  exact ⟨Int.tmod_nonneg _ (by omega), Int.tmod_lt_of_pos _ (by omega)⟩

/-- What a pick does. -/
def Picked (R p : Nat) (n : Int) (w : World) (e : Ending) (w' : World) : Prop := ∃ r : Nat, e = .returned (.int .i64 (r : Int)) ∧ (r : Int) < n ∧ Rd w' R (p + 1) ∧ Step R w w'

theorem picked_of {R p : Nat} {n r : Int} {w : World} (q : Nat) (h : Rd w R p) (hp : p + 1 ≤ 1000000) (h0 : 0 ≤ r) (h1 : r < n) : Picked R p n w (.returned (.int .i64 r)) ((w.setCell ⟨R, 1, none⟩ (.int .i64 ((p : Int) + 1))).drewN q) := by
  obtain ⟨x, rfl⟩ := Int.eq_ofNat_of_zero_le h0
  exact ⟨x, rfl, h1, h.stepped q hp, Step.of_set q⟩

set_option maxHeartbeats 1000000 in
/-- **pick**: a number from 0 to n-1. -/
theorem pick_any (R p : Nat) (n : Int) (w : World) (h : Rd w R p) (hp : p + 1 ≤ 1000000) (hn : 1 ≤ n) (hn' : n ≤ 1000000000) :
    Calls Try.prog 30 #[.pointer (some ⟨R, 0, none⟩), .int .i64 n] w (Picked R p n w) := by
  have H := Lib.hid h
  obtain ⟨h1, h2, h3, h4, a, len, cap, bs, h5, h6, h7, h8, h9⟩ := h
  have H7 := Lib.hid h7; clear h7
  have H8 := Lib.hid h8; clear h8
  have H9 := Lib.hid h9; clear h9
  have hd1 : decide (n < 1) = false := by simp; omega
  by_cases hl : len = 0
  · subst hl
    go_enter Try.func30, Try.ntmps30
    go_wp2
    go_ret
    exact picked_of 0 H.out hp (by omega) (by omega)
  · have hle : ((len : Int) == 0) = false := by simpa using hl
    obtain ⟨b, off, rfl, hb, hc⟩ := H9.out (by omega)
    by_cases hin : p < len
    · have hcell := hc p hin
      have hbr := H8.out (bs[p]?.getD 0) (by have : p < bs.length := by rw [H7.out]; exact hin
                                             simp [this])
      obtain ⟨z, hz⟩ : ∃ z, bs[p]?.getD 0 = z := ⟨_, rfl⟩
      rw [hz] at hcell hbr
      clear hz hc
      go_enter Try.func30, Try.ntmps30
      go_wp2
      go_ret
      exact picked_of 0 H.out hp (Int.emod_nonneg _ (by omega)) (Int.emod_lt_of_pos _ (by omega))
    · have hget : ∀ j, j < len → ∃ z, (0 ≤ z ∧ z ≤ 255) ∧ w.cell? ⟨b, off + j, none⟩ = some (.int .u8 z) := fun j hj =>
        ⟨_, H8.out (bs[j]?.getD 0) (by have : j < bs.length := by rw [H7.out]; exact hj
                                       simp [this]), hc j hj⟩
      obtain ⟨z1, hz1, hcell1⟩ := hget (p % len) (Nat.mod_lt _ (by omega))
      obtain ⟨z2, hz2, hcell2⟩ := hget ((p * 7 + 3) % len) (Nat.mod_lt _ (by omega))
      have hq0 : (0 : Int) ≤ (p : Int) / (len : Int) := Int.ediv_nonneg (by omega) (by omega)
      have hq1 : (p : Int) / (len : Int) ≤ (p : Int) := Int.ediv_le_self _ (by omega)
      have hm1 : (0 : Int) ≤ (p : Int) % (len : Int) := Int.emod_nonneg _ (by omega)
      have hm2 : (p : Int) % (len : Int) < (len : Int) := Int.emod_lt_of_pos _ (by omega)
      have hm3 : ((p : Int) % (len : Int)).toNat = p % len := by rw [← Int.natCast_emod, Int.toNat_natCast]
      have hk1 : (0 : Int) ≤ ((p : Int) * 7 + 3) % (len : Int) := Int.emod_nonneg _ (by omega)
      have hk2 : ((p : Int) * 7 + 3) % (len : Int) < (len : Int) := Int.emod_lt_of_pos _ (by omega)
      have hk3 : (((p : Int) * 7 + 3) % (len : Int)).toNat = (p * 7 + 3) % len := by
        have e : ((p : Int) * 7 + 3) = ((p * 7 + 3 : Nat) : Int) := by omega
        rw [e, ← Int.natCast_emod, Int.toNat_natCast]
      clear hc hget
      go_enter Try.func30, Try.ntmps30
      go_wp2
      go_quiet (fail)
      clear hm1 hm2 hm3 hk1 hk2 hk3
      go_wp2
      go_ret
      have hE := pick_range (z1 * 131 + z2 * 1117 + (p : Int) * 29 + (p : Int) / (len : Int) * 53) n (by omega) (by omega) hn
      exact picked_of nq H.out hp hE.1 hE.2

end Go.Proofs.Ytmbhcgdapglbgaa

namespace Go.Proofs.Ytmbhcgdapglbgaa
open Go.RowKit

theorem one_int (q : Int) : ∀ u ∈ [Value.int .i64 q], u.oneCell' = true := by simp [Value.oneCell']
theorem base_alloc {b : Nat} {w : World} (h : b ≤ w.heap.size) (o : Obj) : b ≤ (w.alloc o).heap.size := by simp; omega
theorem size_two (w : World) (o o' : Obj) : ((w.alloc o).alloc o').heap.size = w.heap.size + 1 + 1 := by simp
theorem own_at {g j len cap : Nat} (e : (Value.slice (some ⟨g, 0, none⟩) len cap).ownBlock = some j) : g = j := by cases e; rfl
theorem Step.of_drew {R : Nat} {w w' : World} (h : Step R w.drew w') : Step R w w' := ⟨h.os, h.tape, h.output, h.size, h.block⟩

theorem Step.refl (R : Nat) (w : World) : Step R w w := ⟨rfl, rfl, rfl, Nat.le_refl _, fun _ _ _ => rfl⟩
theorem Step.alloc {R : Nat} {w w' : World} (h : Step R w w') (o : Obj) : Step R w (w'.alloc o) :=
  ⟨h.os, h.tape, h.output, by have := h.size; simp; omega, fun k hk hr => (Below.heap_alloc _ _ _ (Nat.lt_of_lt_of_le hk h.size)).trans (h.block k hk hr)⟩
theorem Step.grown {R : Nat} {w w' w2 : World} {row : Option Nat} (h : Step R w w') (g : w'.grownBy w2 row) (hr : ∀ k, row = some k → w.heap.size ≤ k ∨ k = R) : Step R w w2 :=
  ⟨g.os.trans h.os, g.tape.trans h.tape, g.output.trans h.output, Nat.le_trans h.size g.size, fun k hk hne => (g.block k (Nat.lt_of_lt_of_le hk h.size) (fun e => by
    rcases hr k e.symm with h1 | h1
    · omega
    · exact hne (by rw [h1]))).trans (h.block k hk hne)⟩
theorem Step.trans {R : Nat} {a b c : World} (h : Step R a b) (g : Step R b c) : Step R a c := h.grown g (fun k e => by cases e; exact .inr rfl)
theorem owns_step {w w' : World} {R base n size : Nat} {e : TypeId} {v : Value} {xs : List Value} (h : w.ownsRow base e size v n xs) (hs : Step R w w') (hR : R < base) : w'.ownsRow base e size v n xs := by
  refine h.kept hs ?_
  cases hb : v.ownBlock with
  | none => exact .inl rfl
  | some k => have := (h.lt k hb).1; right; intro e2; cases e2; omega
theorem Rd.grown {w w' : World} {R p : Nat} {row : Option Nat} (h : Rd w R p) (g : w.grownBy w' row) (hr : ∀ k, row = some k → R < k) : Rd w' R p :=
  have hb : Below (R + 1) w w' := ⟨g.os, g.tape, g.output, g.size, fun k hk => g.block k (by have := h.1; omega) (fun e => by have := hr k e.symm; omega)⟩
  by
    obtain ⟨h1, h2, h3, h4, a, len, cap, bs, h5, h6, h7, h8, h9⟩ := h
    refine ⟨Nat.lt_of_lt_of_le h1 g.size, h2, (hb.cell (p := ⟨R, 1, none⟩) (by simp)).trans h3, (hb.frozen (p := ⟨R, 1, none⟩) (by simp)).trans h4, a, len, cap, bs, (hb.cell (p := ⟨R, 0, none⟩) (by simp)).trans h5, h6, h7, h8, fun hl => ?_⟩
    obtain ⟨b, off, e, hbR, hc⟩ := h9 hl
    exact ⟨b, off, e, hbR, fun j hj => (hb.cell (p := ⟨b, off + j, none⟩) (by simp; omega)).trans (hc j hj)⟩

set_option maxRecDepth 100000 in
set_option maxHeartbeats 1000000 in
/-- **l6Open**: a new reader. -/
theorem open_any (a : Option Addr) (len cap : Nat) (bs : List Int) (w : World) (h : IsBytes w a len bs) (hcap : len ≤ cap) (hl : len ≤ 1048600) :
    Calls Try.prog 29 #[.slice a len cap] w fun e w' => e = .returned (.pointer (some ⟨w.heap.size, 0, none⟩)) ∧ Rd w' w.heap.size 0 ∧ Below w.heap.size w w' := by
  by_cases hb : 2000 < len
  · obtain ⟨h1, h2, h4⟩ := h
    obtain ⟨b, off, rfl, hbw, hc⟩ := h4 (by omega)
    have HR : Hid (Rd (w.alloc (.cells #[.slice (some ⟨b, off, none⟩) 2000 cap, .int .i64 0] 67)) w.heap.size 0) := by
      have hB : Below w.heap.size w (w.alloc (.cells #[.slice (some ⟨b, off, none⟩) 2000 cap, .int .i64 0] 67)) := (Below.refl _ w).alloc (Nat.le_refl _) _
      refine ⟨by simp, by omega, (World.cell?_alloc_mark w _ _ (0, 0) 1).trans rfl, (World.frozen?_alloc_mark w _ _ 0 0 1).trans rfl, _, 2000, cap, bs.take 2000, (World.cell?_alloc_mark w _ _ (0, 0) 0).trans rfl, by omega, by simp; omega, fun z hz => h2 z (List.mem_of_mem_take hz), fun _ => ⟨b, off, rfl, hbw, fun j hj => ?_⟩⟩
      rw [List.getElem?_take_of_lt hj]
      exact (hB.cell (p := ⟨b, off + j, none⟩) hbw).trans (hc j (by omega))
    clear h2 h4 hc
    go_enter Try.func29, Try.ntmps29
    go_wp2
    go_ret
    exact ⟨rfl, HR.out, (Below.refl _ w).alloc (Nat.le_refl _) _⟩
  · obtain ⟨h1, h2, h4⟩ := h
    have HR : Hid (Rd (w.alloc (.cells #[.slice a len cap, .int .i64 0] 67)) w.heap.size 0) := by
      have hB : Below w.heap.size w (w.alloc (.cells #[.slice a len cap, .int .i64 0] 67)) := (Below.refl _ w).alloc (Nat.le_refl _) _
      refine ⟨by simp, by omega, (World.cell?_alloc_mark w _ _ (0, 0) 1).trans rfl, (World.frozen?_alloc_mark w _ _ 0 0 1).trans rfl, _, len, cap, bs, (World.cell?_alloc_mark w _ _ (0, 0) 0).trans rfl, by omega, h1, h2, fun hp => ?_⟩
      obtain ⟨b, off, e, hbw, hc⟩ := h4 hp
      exact ⟨b, off, e, hbw, fun j hj => (hB.cell (p := ⟨b, off + j, none⟩) hbw).trans (hc j hj)⟩
    clear h2 h4
    go_enter Try.func29, Try.ntmps29
    go_wp2
    go_ret
    exact ⟨rfl, HR.out, (Below.refl _ w).alloc (Nat.le_refl _) _⟩

end Go.Proofs.Ytmbhcgdapglbgaa

namespace Go.Proofs.Ytmbhcgdapglbgaa
open Go.RowKit

/-- append to a slice of the call's own, as one step of a region that draws. -/
theorem step_append_own {P : Program} {ops : Array Oper} {o : Oper} {a : Act} {w : World} {K : Act → World → Prop} {Q : Exit → Act → World → Prop} {E : Prop}
    (hg : o.guard = none) (s x : Operand) (t : TypeId) (ho : o.op = .call { callee := .builtin .append, args := #[s, x], argTypes := #[t, t] })
    (base : Nat) (e : TypeId) (i : TypeInfo) (z : Value) (size bytes : Nat) (ht : P.underlying t = some (.slice e)) (hi : P.info? e = some i) (hz : i.zero = some z)
    (hsize : i.size = size) (hby : i.bytes = bytes) (hzs : z.cells.size = size) (hsz : 0 < size)
    (v : Value) (n : Nat) (xs : List Value) (hs : a.eval s = v) (hown : w.ownsRow base e size v n xs)
    (ad : Addr) (m c : Nat) (news : List Value) (hx : a.eval x = .slice (some ad) m c) (hl : news.length = m * size) (hnews : ∀ j u, news[j]? = some u → w.cell? (ad.add j) = some u) (h1 : ∀ u ∈ news, u.oneCell' = true)
    (h63 : n + m ≤ maxLen) (hbytes : (n + m) * bytes ≤ 140737488355328) (hbase : base ≤ w.heap.size)
    (h : ∀ v' w', w'.ownsRow base e size v' (n + m) (xs ++ news) → w.grownBy w' v.ownBlock → (v' = .slice none 0 0 ↔ v = .slice none 0 0 ∧ m = 0) → K (a.put o.dst v') w') :
    if Region.wanted o (yielded ops a.tmps) = true then Oper.wp P o a w K Q else E := by
  have hw : Region.wanted o (yielded ops a.tmps) = true := by simp [Region.wanted, hg]
  rw [if_pos hw]
  exact wp_append_own w s x t ho base e i z size bytes ht hi hz hsize hby hzs hsz v n xs hs hown ad m c news hx hl hnews h1 h63 hbytes hbase h

theorem one_slice (a : Option Addr) (l c : Nat) : ∀ u ∈ [Value.slice a l c], u.oneCell' = true := by simp [Value.oneCell']
theorem one_cell {w : World} {g : Nat} {v : Value} (h : w.cell? ⟨g, 0, none⟩ = some v) : ∀ j u, [v][j]? = some u → w.cell? ((⟨g, 0, none⟩ : Addr).add j) = some u := by
  intro j u hu
  cases j with
  | zero =>
    cases hu
    simpa [Addr.add] using h
  | succ j => simp at hu

theorem own_cells {w : World} {base g n c : Nat} {zs : List Int} (h : w.ownsRow base 3 1 (.slice (some ⟨g, 0, none⟩) n c) n (zs.map (Value.int .i64))) : ∀ j u, (zs.map (Value.int .i64))[j]? = some u → w.cell? ((⟨g, 0, none⟩ : Addr).add j) = some u := by
  intro j u hu
  have hl := h.1
  have hj : j < n := by
    rcases Nat.lt_or_ge j n with h1 | h1
    · exact h1
    · rw [List.getElem?_eq_none (by omega)] at hu; cases hu
  rw [add_spot, Nat.zero_add, h.cellAt j (by omega)]
  exact hu
theorem ints_one' (zs : List Int) : ∀ u ∈ zs.map (Value.int .i64), u.oneCell' = true := by
  intro u hu
  obtain ⟨z, _, rfl⟩ := List.mem_map.1 hu
  simp [Value.oneCell']

end Go.Proofs.Ytmbhcgdapglbgaa

namespace Go.Proofs.Ytmbhcgdapglbgaa
open Go.RowKit

theorem ints_one (zs : List Int) : ∀ u ∈ zs.map (Value.int .i64), u.oneCell' = true := by
  intro u hu
  obtain ⟨z, _, rfl⟩ := List.mem_map.1 hu
  simp [Value.oneCell']

/-- The cells behind a piece of a slice of ints: from off + p on, the first m of what is left. -/
theorem piece_cells {w : World} {b off len : Nat} {zs : List Int} (hz : zs.length = len) (hc : ∀ j, j < len → w.cell? ⟨b, off + j, none⟩ = some (.int .i64 (zs[j]?.getD 0))) (p m q : Nat) (hpm : p + m ≤ len) (hq : q = off + p) :
    ∀ j u, (((zs.drop p).take m).map (Value.int .i64))[j]? = some u → w.cell? ((⟨b, q, none⟩ : Addr).add j) = some u := by
  intro j u hj
  have hjm : j < m := by
    rcases Nat.lt_or_ge j m with h | h
    · exact h
    · rw [List.getElem?_eq_none (by simp; omega)] at hj; cases hj
  have hadd : (⟨b, q, none⟩ : Addr).add j = ⟨b, off + (p + j), none⟩ := by
    subst hq
    by_cases h : j = 0
    · subst h; simp [Addr.add]
    · simp [Addr.add, h]; omega
  rw [hadd, hc (p + j) (by omega)]
  rw [List.getElem?_map, List.getElem?_take_of_lt hjm, List.getElem?_drop] at hj
  have hlt : p + j < zs.length := by omega
  rw [List.getElem?_eq_getElem hlt] at hj ⊢
  simpa using hj

/-- .. all that is left from p on. -/
theorem piece_rest {w : World} {b off len : Nat} {zs : List Int} (hz : zs.length = len) (hc : ∀ j, j < len → w.cell? ⟨b, off + j, none⟩ = some (.int .i64 (zs[j]?.getD 0))) (p q : Nat) (hp : p ≤ len) (hq : q = off + p) :
    ∀ j u, ((zs.drop p).map (Value.int .i64))[j]? = some u → w.cell? ((⟨b, q, none⟩ : Addr).add j) = some u := by
  have h := piece_cells hz hc p (len - p) q (by omega) hq
  have e : (zs.drop p).take (len - p) = zs.drop p := List.take_of_length_le (by simp; omega)
  rwa [e] at h
theorem rest_none {zs : List Int} {p : Nat} (hp : zs.length ≤ p) : ∀ (j : Nat) (u : Value), ((zs.drop p).map (Value.int .i64))[j]? = some u → False := by
  intro j u h
  rw [List.drop_of_length_le hp] at h
  simp at h
theorem joined {w : World} {base n c : Nat} {a : Option Addr} {A B : List Int} (h : w.ownsRow base 3 1 (.slice a n c) n (A.map (Value.int .i64) ++ B.map (Value.int .i64))) (hn : n ≤ 1048600) : IsInts w a n c (A ++ B) := by
  refine IsInts.of_owned (base := base) ?_ hn
  rw [List.map_append]
  exact h

/-- An append to a new slice leaves the cells of an older block as they were. -/
theorem kept_cells {w w5 : World} {t : TypeId} {g off len n c : Nat} {zs : List Int} (hg : g < w.heap.size) (h : (w.alloc (.cells #[] t)).drew.grownBy w5 (Value.slice (some ⟨w.heap.size, 0, none⟩) n c).ownBlock)
    (hc : ∀ j, j < len → w.cell? ⟨g, off + j, none⟩ = some (.int .i64 (zs[j]?.getD 0))) : ∀ j, j < len → w5.cell? ⟨g, off + j, none⟩ = some (.int .i64 (zs[j]?.getD 0)) := fun j hj =>
  (World.cell?_of_block (w := w) ((h.block g (by show g < (w.alloc _).heap.size; simp; omega) (fun e => by
    have : (some g : Option Nat) = some w.heap.size := e
    injection this with e2
    omega)).trans (Below.heap_alloc w _ g hg))).trans (hc j hj)
theorem kept_below {w w5 : World} {t : TypeId} {n c : Nat} (h : (w.alloc (.cells #[] t)).drew.grownBy w5 (Value.slice (some ⟨w.heap.size, 0, none⟩) n c).ownBlock) : Below w.heap.size w w5 :=
  ((Below.refl w.heap.size w).alloc (Nat.le_refl _) _).drew.grown h (by show w.heap.size ≤ (w.alloc _).heap.size; simp) (fun k e => by
    have : (some w.heap.size : Option Nat) = some k := e
    injection this with e2
    omega)

end Go.Proofs.Ytmbhcgdapglbgaa
