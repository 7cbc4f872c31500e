/-
  spec.SeatsCheck: a contract at all arguments. It writes into no memory.
-/
import Derived.Test.YtgcocdacofpglaaGrp7
namespace Go.Proofs.Ytgcocdacofpglaa
open Go.RowKit

attribute [local go_sem] Oper.semAt_some

theorem checkB_no {vs gs : List Int} {m : Int} (h : okC vs gs m = false) : checkB vs gs m = false := by rw [checkB, h]; rfl
theorem checkB_yes {vs gs : List Int} {m : Int} (h : okC vs gs m = true) : checkB vs gs m = chTo vs gs m vs.length vs.length := by rw [checkB, h, Bool.true_and]
theorem chAt_no {vs gs : List Int} {m : Int} {i k : Nat} {gi : Int} (hg : gs[i]?.getD 0 = gi) (h : ¬ 0 < gi) : chAt vs gs m i k = true := by
  unfold chAt; rw [hg, decide_eq_false h]; rfl
theorem chAt_is {vs gs : List Int} {m : Int} {i k : Nat} {gi gk vi vk di dk : Int} {b : Bool} (h1 : gs[i]?.getD 0 = gi) (h2 : gs[k]?.getD 0 = gk) (h3 : vs[i]?.getD 0 = vi) (h4 : vs[k]?.getD 0 = vk) (h5 : divI m gk = dk) (h6 : divI m (gi - 1) = di) (h : 0 < gi) (hb : decide (vi * dk < vk * di) = b) : chAt vs gs m i k = !b := by
  unfold chAt; rw [h1, h2, h3, h4, h5, h6, decide_eq_true h, hb, Bool.true_and]

end Go.Proofs.Ytgcocdacofpglaa
