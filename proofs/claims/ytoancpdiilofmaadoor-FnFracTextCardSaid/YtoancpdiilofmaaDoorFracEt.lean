/-
  DrawFracText: a drawn fraction; nothing is written that was there. No condition but what the theorem says.
-/
import Derived.Test.YtoancpdiilofmaaDoorFracD
namespace Go.Proofs.YtoancpdiilofmaaDoor
open Go.RowKit

def DrawnOne (w : World) (e : Ending) (w' : World) : Prop := ∃ x y : Int, e = .returned (.agg #[.int .i64 x, .int .i64 y]) ∧ Below w.heap.size w w'

set_option maxRecDepth 100000 in
set_option maxHeartbeats 4000000 in
/-- **DrawFracText**. -/
theorem drawFracText_any (a : Option Addr) (len cap : Nat) (bs : List Int) (w : World) (h : IsBytes w a len bs) (hcap : len ≤ cap) (hl : len ≤ 1048600) :
    Calls Tryd.prog 5 #[.slice a len cap] w (DrawnOne w) := by
  have T0 := Lib.hid (Two.new w 0 0 24)
  have B0 := Lib.hid ((Below.refl _ w).alloc (Nat.le_refl _) (.cells #[.int .i64 0, .int .i64 0] 24))
  have H := Lib.hid (h.below B0.out); clear h
  go_enter Tryd.func5, Tryd.ntmps5
  go_wp2_with fail
  refine (open_any a len cap bs _ H.out hcap hl).mono ?_
  rintro e w1 ⟨rfl, hr, hb⟩
  have hR : (w.alloc (.cells #[.int .i64 0, .int .i64 0] 24)).heap.size = w.heap.size + 1 := by simp
  have T1 := Lib.hid (T0.out.below hb)
  have B1 := Lib.hid (below_on B0.out hb)
  rw [hR] at hr
  have R1 := Lib.hid hr
  clear hr hb
  simp only [hR]
  go_wp2_with fail
  refine (l93_any (w.heap.size + 1) 0 _ R1.out (by omega)).mono ?_
  rintro e w2 ⟨x, y, rfl, hr, hs⟩
  have T2 := Lib.hid (T1.out.step hs (by omega))
  have B2 := Lib.hid (B1.out.trans (hs.below (by omega) (Nat.le_of_lt T1.out.lt)))
  clear hr hs
  obtain ⟨lr, r0, r9, g0, g9⟩ := T2.out
  have k0 := Two.set0 T2.out (.int .i64 x)
  have k9 := Two.set1 T2.out (.int .i64 x) (.int .i64 y)
  go_wp2
  refine bodyPost_ret (v := .agg #[.int .i64 x, .int .i64 y]) (by simp [results, Tryd.results5, go_sem, k0, k9]) rfl ?_
  exact ⟨x, y, rfl, below_set2 B2.out (Nat.le_refl _) _ _⟩

end Go.Proofs.YtoancpdiilofmaaDoor
