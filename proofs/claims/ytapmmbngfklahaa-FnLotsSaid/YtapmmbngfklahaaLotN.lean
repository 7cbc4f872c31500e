/-
  The contracts of lots, their answers named. No condition but what each theorem says.
-/
import Derived.Test.YtapmmbngfklahaaLotI
import Derived.Test.YtapmmbngfklahaaLotS
namespace Go.Proofs.Ytapmmbngfklahaa
open Go.RowKit

/-- **impl.LotsValid**, its answer named. -/
theorem implLots_as (a : Option Addr) (len cap : Nat) (zs : List Int) (v : Bool) (w : World) (h : IsInts w a len cap zs) (hv : lotsB zs = v) :
    Calls Try.prog 17 #[.slice a len cap] w fun e w' => e = .returned (.bool v) ∧ Below w.heap.size w w' := by
  subst hv; exact implLots_any a len cap zs w h
/-- **spec.LotsValid**, its answer named. -/
theorem specLots_as (a : Option Addr) (len cap : Nat) (zs : List Int) (v : Bool) (w : World) (h : IsInts w a len cap zs) (hv : lotsB zs = v) :
    Calls Try.prog 21 #[.slice a len cap] w fun e w' => e = .returned (.bool v) ∧ Dr w w' := by
  subst hv; exact specLots_any a len cap zs w h

end Go.Proofs.Ytapmmbngfklahaa
