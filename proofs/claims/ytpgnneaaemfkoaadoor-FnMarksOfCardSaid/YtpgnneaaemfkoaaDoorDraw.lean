/-
  The reader that the drawn statements use (l6Open, pick): what it does to memory, and in which range its numbers are.
-/
import Derived.Test.YtpgnneaaemfkoaaDoorOwn
import Derived.Test.YtpgnneaaemfkoaaDoorOpen
namespace Go.Proofs.YtpgnneaaemfkoaaDoor
open Go.RowKit

/-- Block R is a reader that stands at place p. -/
def Rd (w : World) (R p : Nat) : Prop := R < w.heap.size ∧ p ≤ 1000000 ∧ w.cell? ⟨R, 1, none⟩ = some (.int .i64 (p : Int)) ∧ w.frozen? ⟨R, 1, none⟩ = false ∧
  ∃ (a : Option Addr) (len cap : Nat) (bs : List Int), w.cell? ⟨R, 0, none⟩ = some (.slice a len cap) ∧ len ≤ 2000 ∧ bs.length = len ∧ (∀ z ∈ bs, 0 ≤ z ∧ z ≤ 255) ∧
    (0 < len → ∃ b off, a = some ⟨b, off, none⟩ ∧ b < R ∧ ∀ j, j < len → w.cell? ⟨b, off + j, none⟩ = some (.int .u8 (bs[j]?.getD 0)))

theorem Rd.below {w w' : World} {R p : Nat} (h : Rd w R p) (hb : Below w.heap.size w w') : Rd w' R p := by
  obtain ⟨h1, h2, h3, h4, a, len, cap, bs, h5, h6, h7, h8, h9⟩ := h
  refine ⟨Nat.lt_of_lt_of_le h1 hb.size, h2, (hb.cell (p := ⟨R, 1, none⟩) h1).trans h3, (hb.frozen (p := ⟨R, 1, none⟩) h1).trans h4, a, len, cap, bs, (hb.cell (p := ⟨R, 0, none⟩) h1).trans h5, h6, h7, h8, fun hl => ?_⟩
  obtain ⟨b, off, e, hbR, hc⟩ := h9 hl
  exact ⟨b, off, e, hbR, fun j hj => (hb.cell (p := ⟨b, off + j, none⟩) (Nat.lt_trans hbR h1)).trans (hc j hj)⟩

/-- A step of the reader: its place alone is written. -/
def Step (R : Nat) (w w' : World) : Prop := w.grownBy w' (some R)
theorem Step.of_set {w : World} {R : Nat} {v : Value} (q : Nat) : Step R w ((w.setCell ⟨R, 1, none⟩ v).drewN q) :=
  ⟨rfl, rfl, rfl, by simp [World.setCell], fun k _ hk => Below.heap_setCell _ _ _ _ (fun e => hk (by rw [e]))⟩
theorem Step.below {R : Nat} {w w' : World} (h : Step R w w') {B : Nat} (hR : B ≤ R) (hB : B ≤ w.heap.size) : Below B w w' := (Below.refl B w).grown h hB (fun k e => by cases e; exact hR)

theorem Rd.stepped {w : World} {R p : Nat} (h : Rd w R p) (q : Nat) (hp : p + 1 ≤ 1000000) : Rd ((w.setCell ⟨R, 1, none⟩ (.int .i64 ((p : Int) + 1))).drewN q) R (p + 1) := by
  obtain ⟨h1, h2, h3, h4, a, len, cap, bs, h5, h6, h7, h8, h9⟩ := h
  refine ⟨by simpa [World.setCell] using h1, hp, ?_, ?_, a, len, cap, bs, ?_, h6, h7, h8, fun hl => ?_⟩
  · rw [World.cell?_drewN, World.cell?_setCell_same' _ _ _ (by rw [h3]; rfl)]; rfl
  · rw [World.frozen?_drewN, World.frozen?_setCell]; exact h4
  · rw [World.cell?_drewN, World.cell?_setCell_other _ _ _ _ (by intro e; injection e with _ e2; exact absurd e2 (by decide))]; exact h5
  · obtain ⟨b, off, e, hbR, hc⟩ := h9 hl
    refine ⟨b, off, e, hbR, fun j hj => ?_⟩
    rw [World.cell?_drewN, World.cell?_setCell_other _ _ _ _ (by intro e'; injection e' with e1; omega)]
    exact hc j hj

theorem bits_xor_i64 (a b : Nat) (ha : a < 4611686018427387904) (hb : b < 4611686018427387904) : bits .xor .i64 (a : Int) (b : Int) = ((a ^^^ b : Nat) : Int) := by
  have hx : a ^^^ b < 2 ^ 62 := Nat.xor_lt_two_pow (by omega) (by omega)
  unfold bits
  show IntKind.i64.wrap (((BitVec.ofInt 64 (a : Int)) ^^^ (BitVec.ofInt 64 (b : Int))).toNat : Int) = _
  rw [BitVec.toNat_xor, ofInt_u64 a (by omega), ofInt_u64 b (by omega)]
  exact IntWalk.i64_in _ (by omega)
theorem pick_range (E n : Int) (h0 : 0 ≤ E) (h1 : E < 4611686018427387904) (hn : 1 ≤ n) : 0 ≤ (bits .xor .i64 E (E / 64)).tmod n ∧ (bits .xor .i64 E (E / 64)).tmod n < n := by
  obtain ⟨x, rfl⟩ := Int.eq_ofNat_of_zero_le h0
  have e : ((x : Int) / 64) = ((x / 64 : Nat) : Int) := by omega
  rw [e, bits_xor_i64 x (x / 64) (by omega) (by omega)]
  exact ⟨Int.tmod_nonneg _ (by omega), Int.tmod_lt_of_pos _ (by omega)⟩

/-- What a pick does. -/
def Picked (R p : Nat) (n : Int) (w : World) (e : Ending) (w' : World) : Prop := ∃ r : Nat, e = .returned (.int .i64 (r : Int)) ∧ (r : Int) < n ∧ Rd w' R (p + 1) ∧ Step R w w'

theorem picked_of {R p : Nat} {n r : Int} {w : World} (q : Nat) (h : Rd w R p) (hp : p + 1 ≤ 1000000) (h0 : 0 ≤ r) (h1 : r < n) : Picked R p n w (.returned (.int .i64 r)) ((w.setCell ⟨R, 1, none⟩ (.int .i64 ((p : Int) + 1))).drewN q) := by
  obtain ⟨x, rfl⟩ := Int.eq_ofNat_of_zero_le h0
  exact ⟨x, rfl, h1, h.stepped q hp, Step.of_set q⟩

set_option maxHeartbeats 1000000 in
/-- **pick**: a number from 0 to n-1. -/
theorem pick_any (R p : Nat) (n : Int) (w : World) (h : Rd w R p) (hp : p + 1 ≤ 1000000) (hn : 1 ≤ n) (hn' : n ≤ 1000000000) :
    Calls Tryd.prog 29 #[.pointer (some ⟨R, 0, none⟩), .int .i64 n] w (Picked R p n w) := by
  have H := Lib.hid h
  obtain ⟨h1, h2, h3, h4, a, len, cap, bs, h5, h6, h7, h8, h9⟩ := h
  have H7 := Lib.hid h7; clear h7
  have H8 := Lib.hid h8; clear h8
  have H9 := Lib.hid h9; clear h9
  have hd1 : decide (n < 1) = false := by simp; omega
  by_cases hl : len = 0
  · subst hl
    go_enter Tryd.func29, Tryd.ntmps29
    go_wp2
    go_ret
    exact picked_of 0 H.out hp (by omega) (by omega)
  · have hle : ((len : Int) == 0) = false := by simpa using hl
    obtain ⟨b, off, rfl, hb, hc⟩ := H9.out (by omega)
    by_cases hin : p < len
    · have hcell := hc p hin
      have hbr := H8.out (bs[p]?.getD 0) (by have : p < bs.length := by rw [H7.out]; exact hin
                                             simp [this])
      obtain ⟨z, hz⟩ : ∃ z, bs[p]?.getD 0 = z := ⟨_, rfl⟩
      rw [hz] at hcell hbr
      clear hz hc
      go_enter Tryd.func29, Tryd.ntmps29
      go_wp2
      go_ret
      exact picked_of 0 H.out hp (Int.emod_nonneg _ (by omega)) (Int.emod_lt_of_pos _ (by omega))
    · have hget : ∀ j, j < len → ∃ z, (0 ≤ z ∧ z ≤ 255) ∧ w.cell? ⟨b, off + j, none⟩ = some (.int .u8 z) := fun j hj =>
        ⟨_, H8.out (bs[j]?.getD 0) (by have : j < bs.length := by rw [H7.out]; exact hj
                                       simp [this]), hc j hj⟩
      obtain ⟨z1, hz1, hcell1⟩ := hget (p % len) (Nat.mod_lt _ (by omega))
      obtain ⟨z2, hz2, hcell2⟩ := hget ((p * 7 + 3) % len) (Nat.mod_lt _ (by omega))
      have hq0 : (0 : Int) ≤ (p : Int) / (len : Int) := Int.ediv_nonneg (by omega) (by omega)
      have hq1 : (p : Int) / (len : Int) ≤ (p : Int) := Int.ediv_le_self _ (by omega)
      have hm1 : (0 : Int) ≤ (p : Int) % (len : Int) := Int.emod_nonneg _ (by omega)
      have hm2 : (p : Int) % (len : Int) < (len : Int) := Int.emod_lt_of_pos _ (by omega)
      have hm3 : ((p : Int) % (len : Int)).toNat = p % len := by rw [← Int.natCast_emod, Int.toNat_natCast]
      have hk1 : (0 : Int) ≤ ((p : Int) * 7 + 3) % (len : Int) := Int.emod_nonneg _ (by omega)
      have hk2 : ((p : Int) * 7 + 3) % (len : Int) < (len : Int) := Int.emod_lt_of_pos _ (by omega)
      have hk3 : (((p : Int) * 7 + 3) % (len : Int)).toNat = (p * 7 + 3) % len := by
        have e : ((p : Int) * 7 + 3) = ((p * 7 + 3 : Nat) : Int) := by omega
        rw [e, ← Int.natCast_emod, Int.toNat_natCast]
      clear hc hget
      go_enter Tryd.func29, Tryd.ntmps29
      go_wp2
      go_quiet (fail)
      clear hm1 hm2 hm3 hk1 hk2 hk3
      go_wp2
      go_ret
      have hE := pick_range (z1 * 131 + z2 * 1117 + (p : Int) * 29 + (p : Int) / (len : Int) * 53) n (by omega) (by omega) hn
      exact picked_of nq H.out hp hE.1 hE.2

end Go.Proofs.YtpgnneaaemfkoaaDoor
