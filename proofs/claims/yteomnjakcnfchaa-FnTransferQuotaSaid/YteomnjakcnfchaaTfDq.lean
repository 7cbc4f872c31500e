/-
  spec.DrawTransferQuota: the numbers that are drawn; it writes into no memory that was there.
-/
import Derived.Test.YteomnjakcnfchaaDrawO
namespace Go.Proofs.Yteomnjakcnfchaa
open Go.RowKit

set_option maxHeartbeats 2000000 in
/-- **DrawTransferQuota**. -/
theorem drawQuota_any (a : Option Addr) (len cap : Nat) (bs : List Int) (w : World) (h : IsBytes w a len bs) (hcap : len ≤ cap) (hl : len ≤ 1048600) :
    Calls Try.prog 15 #[.slice a len cap] w fun e w' => ∃ t s : Int, e = .returned (.tuple #[.int .i64 t, .int .i64 s]) ∧ (-1 ≤ t ∧ t ≤ 61) ∧ (0 ≤ s ∧ s ≤ 3) ∧ Below w.heap.size w w' := by
  have HI := Lib.hid h; clear h
  go_enter Try.func15, Try.ntmps15
  go_wp2_with fail
  refine (open_any _ _ _ bs _ HI.out hcap hl).mono ?_
  rintro e w1 ⟨rfl, hr, hb⟩
  obtain ⟨R, hR⟩ : ∃ R, w.heap.size = R := ⟨_, rfl⟩
  rw [hR] at hr ⊢
  have B1 := Lib.hid hb
  have R1 := Lib.hid hr
  clear hb hr
  go_wp2_with fail
  refine (pick_any R 0 63 _ R1.out (by omega) (by omega) (by omega)).mono ?_
  rintro e w2 ⟨x, rfl, hx, hr, hs⟩
  have R2 := Lib.hid hr
  have B2 : Below R w w2 := hR ▸ B1.out.grown hs (by have := B1.out.size; omega) (fun k e => by cases e; omega)
  clear hr hs R1 B1
  go_wp2_with fail
  refine (pick_any R (0 + 1) 4 _ R2.out (by omega) (by omega) (by omega)).mono ?_
  rintro e w3 ⟨y, rfl, hy, hr, hs⟩
  have B3 : Below R w w3 := B2.grown hs (by have := B2.size; omega) (fun k e => by cases e; omega)
  clear hr hs R2 B2
  go_wp2
  go_ret2
  exact ⟨(x : Int) - 1, y, rfl, by omega, by omega, hR ▸ B3⟩

end Go.Proofs.Yteomnjakcnfchaa
