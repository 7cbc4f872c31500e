/-
  A call that starts no goroutine in its run returns as a row with 'leaving' asks. No condition but the row's own contract for a call that is alone.
-/
import Derived.Conc.Holds
import Derived.Handed
namespace Go.Proofs.YtafnmongglhlaaaGreat
open Go

theorem leaving_of_alone {P : Program} {m : Machine} {w : World} {t : Trace} (h : aloneAtReturn P m w t) : leavingAtReturn P m w t := by
  refine ⟨h.2.1, ⟨fun g hg => ⟨0, ?_⟩, h.1.2⟩, h.2.2⟩
  have h1 := h.1.1
  unfold Machine.othersDone at h1
  simp only [List.all_eq_true] at h1
  have := h1 g hg
  simpa [Goroutine.LeavesIn] using this
theorem leaving_of_handed {a : Assume} {C : Checked} {os : Os} {f : FuncId} {r : Reach} {Pre : World → Array Value → Prop} {Post : World → Array Value → Value → World → Prop} (h : ReturnsInHanded a C os f r Pre Post) : ReturnsInLeavingWide a C os f r Pre Post :=
  fun e => ReturnsInOpen.mono (fun _ _ _ x => leaving_of_alone x) (fun _ x => x) (h e)

end Go.Proofs.YtafnmongglhlaaaGreat
