/-
  spec.SeatsQuota and spec.SeatsFair: contracts at all arguments. They write into no memory.
-/
import Derived.Test.YtbcemgmfkddafaaGrp7
namespace Go.Proofs.Ytbcemgmfkddafaa
open Go.RowKit

attribute [local go_sem] Oper.semAt_some

theorem inP_yes {p : Int} {n : Nat} (h0 : 0 ≤ p) (h1 : p < (n : Int)) : inB p 0 ((n : Int) - 1) = true := inB_yes (by omega) (by omega)
end Go.Proofs.Ytbcemgmfkddafaa
