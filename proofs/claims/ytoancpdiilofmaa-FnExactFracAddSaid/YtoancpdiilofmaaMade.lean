/-
  A drawing region that calls, lays a block and stores a pair of ints into it: what stands behind it. Of no function.
-/
import Derived.Test.YtoancpdiilofmaaFracN
import Derived.Deep.RegionLaw
import Derived.Deep.Cut
import Derived.Deep.CutRange
namespace Go.Proofs.Ytoancpdiilofmaa
open Go.RowKit

/-- Behind the region: a block of the region's own holds the pair, nothing that was there has turned. -/
def MadeB (W0 : World) (x y : Int) (ok : Bool) (s5 s6 : Value) (wx : World) : Prop := ∃ p, s5 = .pointer (some ⟨p, 0, none⟩) ∧ s6 = .bool ok ∧ Two wx p x y ∧ Below W0.heap.size W0 wx
theorem below_drew {B : Nat} {w w' : World} (h : Below B w.drew w') : Below B w w' := ⟨h.os, h.tape, h.output, h.size, h.block⟩
theorem made_old {W0 w3 : World} {x y u v : Int} {ok : Bool} {p : Nat} (hN : Two w3 p u v) (hC : Below W0.heap.size W0 w3) (hp : W0.heap.size ≤ p) :
    MadeB W0 x y ok (.pointer (some ⟨p, 0, none⟩)) (.bool ok) ((w3.setCell ⟨p, 0, none⟩ (.int .i64 x)).setCell ⟨p, 1, none⟩ (.int .i64 y)) :=
  ⟨p, rfl, rfl, ⟨by simpa [World.setCell] using hN.lt, by rw [World.cell?_setCell_other _ _ _ _ (by intro e; injection e with _ e2; exact absurd e2 (by decide))]; exact hN.set0 _, hN.set1 _ _, by simpa using hN.f0, by simpa using hN.f1⟩, below_set2 hC hp _ _⟩
theorem made_new {W0 w3 : World} {x y : Int} {ok : Bool} {t : TypeId} (hC : Below W0.heap.size W0 w3) :
    MadeB W0 x y ok (.pointer (some ⟨w3.heap.size, 0, none⟩)) (.bool ok) (w3.alloc (.cells #[.int .i64 x, .int .i64 y] t)) :=
  ⟨_, rfl, rfl, Two.new _ _ _ _, below_more hC _⟩

end Go.Proofs.Ytoancpdiilofmaa
