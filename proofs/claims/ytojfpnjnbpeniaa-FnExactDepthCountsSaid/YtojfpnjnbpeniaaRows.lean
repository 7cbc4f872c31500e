/-
  No cell of these rows narrows 'for every input' (looked for: loops, veiled, ifaces, maps, wideKeys, modest, calm, conditions, laid).
  DERIVED. THE GIVEN ROWS OF THIS SEAT. 12 by the template 'for every input the law returns true; each argument reads behind the call as it read before'; 0 by the template 'total and deterministic' (their statements: YtojfpnjnbpeniaaTotals.lean).
  GIVEN WITH THE SEED: the statements are not yours to turn. If you find one false, say at which input.
  Laid BY PROGRAM, IN A SANDBOX (cutbox-rows.mjs): the forced cells as the released guide's own fill.sh prints them over the translation cf78a37f1f7c7a97… (all of the seat's roots in one cut). By AI agents, Wed Nov 11 2026. No macro, syntax, notation, axiom, sorry.
-/
import Derived.Test.YtojfpnjnbpeniaaChecked
import GoSem.Claim
import GoSem.ClaimJoined
import GoSem.ClaimMapViews
import Derived.JoinedTies
import Derived.KernelRfl
namespace Go.Proofs.Ytojfpnjnbpeniaa
/- THE CELL 'sum', in the pinned program and in every row, IS THE sha256 OF THE DUMP (.gsa) THAT YtojfpnjnbpeniaaProg.lean LOADS. Nothing in Lean hashes anything: it is a label: what it is worth is what the hold of that sum in a sandbox is worth. -/
noncomputable def Try.pinned : Pinned := { name := "ytojfpnjnbpeniaa", sum := "cf78a37f1f7c7a97e5d685757478521b952c3f250088945e050e4acf970b04a7", checked := Try.checked }
namespace Rows
def none {H : Type} : Left H := { results := [], args := [] }

/-- 'laws.FnDepth': WHATEVER THE INPUT: true; the input reads as it did. -/
def fnDepthSpec : ChangeSpec := { name := "fnDepth", fn := fun _ => fun
  | [d] => { results := [.lit (.bool true)], args := [d] }
  | _ => none }
def fnDepthRow : OpenClaim := { program := "ytojfpnjnbpeniaa", sum := "cf78a37f1f7c7a97e5d685757478521b952c3f250088945e050e4acf970b04a7", func := "loop.example/tallyaudit/laws.FnDepth", spec := "fnDepth", inPlace := ["internal/bytealg.abigen_runtime_cmpstring", "(*sync.WaitGroup).Add", "internal/race.ReleaseMerge", "internal/race.Disable", "internal/race.Enable", "internal/synctest.IsInBubble", "internal/synctest.Associate[sync.WaitGroup]", "sync.fatal", "sync/atomic.OrUint64", "sync/atomic.AddUint64", "internal/race.Read", "sync/atomic.LoadUint64", "sync/atomic.StoreUint64", "internal/synctest.Disassociate[sync.WaitGroup]", "sync.runtime_Semrelease", "(*sync.WaitGroup).Done", "(*sync.WaitGroup).Wait", "internal/race.Acquire", "internal/synctest.IsAssociated[sync.WaitGroup]", "sync/atomic.CompareAndSwapUint64", "internal/race.Write", "sync.runtime_SemacquireWaitGroup"], unfollowed := true, recurses := true, leaving := true, apart := false }
def FnDepthSaid : Prop := fnDepthRow.holds Try.pinned (OpenSpec.ofChange fnDepthSpec)

/-- ITS FALSE NEIGHBOUR: 'it returns false'. Refute it at one input. -/
def fnDepthWrong : ChangeSpec := { name := "fnDepth", fn := fun _ => fun
  | [d] => { results := [.lit (.bool false)], args := [d] }
  | _ => none }
def FnDepthWrongFalsely : Prop := fnDepthRow.holds Try.pinned (OpenSpec.ofChange fnDepthWrong)

/-- 'laws.FnDepthAll': WHATEVER THE INPUT: true; the input reads as it did. -/
def fnDepthAllSpec : ChangeSpec := { name := "fnDepthAll", fn := fun _ => fun
  | [d] => { results := [.lit (.bool true)], args := [d] }
  | _ => none }
def fnDepthAllRow : OpenClaim := { program := "ytojfpnjnbpeniaa", sum := "cf78a37f1f7c7a97e5d685757478521b952c3f250088945e050e4acf970b04a7", func := "loop.example/tallyaudit/laws.FnDepthAll", spec := "fnDepthAll", inPlace := ["internal/bytealg.abigen_runtime_cmpstring"], unfollowed := true, recurses := true, leaving := true, apart := false }
def FnDepthAllSaid : Prop := fnDepthAllRow.holds Try.pinned (OpenSpec.ofChange fnDepthAllSpec)

/-- ITS FALSE NEIGHBOUR: 'it returns false'. Refute it at one input. -/
def fnDepthAllWrong : ChangeSpec := { name := "fnDepthAll", fn := fun _ => fun
  | [d] => { results := [.lit (.bool false)], args := [d] }
  | _ => none }
def FnDepthAllWrongFalsely : Prop := fnDepthAllRow.holds Try.pinned (OpenSpec.ofChange fnDepthAllWrong)

/-- 'laws.FnDepthWinner': WHATEVER THE INPUT: true; the input reads as it did. -/
def fnDepthWinnerSpec : ChangeSpec := { name := "fnDepthWinner", fn := fun _ => fun
  | [d] => { results := [.lit (.bool true)], args := [d] }
  | _ => none }
def fnDepthWinnerRow : OpenClaim := { program := "ytojfpnjnbpeniaa", sum := "cf78a37f1f7c7a97e5d685757478521b952c3f250088945e050e4acf970b04a7", func := "loop.example/tallyaudit/laws.FnDepthWinner", spec := "fnDepthWinner", inPlace := ["internal/bytealg.abigen_runtime_cmpstring"], unfollowed := true, recurses := true, leaving := true, apart := false }
def FnDepthWinnerSaid : Prop := fnDepthWinnerRow.holds Try.pinned (OpenSpec.ofChange fnDepthWinnerSpec)

/-- ITS FALSE NEIGHBOUR: 'it returns false'. Refute it at one input. -/
def fnDepthWinnerWrong : ChangeSpec := { name := "fnDepthWinner", fn := fun _ => fun
  | [d] => { results := [.lit (.bool false)], args := [d] }
  | _ => none }
def FnDepthWinnerWrongFalsely : Prop := fnDepthWinnerRow.holds Try.pinned (OpenSpec.ofChange fnDepthWinnerWrong)

/-- 'laws.FnDepthWinnerOne': WHATEVER THE INPUT: true; the input reads as it did. -/
def fnDepthWinnerOneSpec : ChangeSpec := { name := "fnDepthWinnerOne", fn := fun _ => fun
  | [d] => { results := [.lit (.bool true)], args := [d] }
  | _ => none }
def fnDepthWinnerOneRow : OpenClaim := { program := "ytojfpnjnbpeniaa", sum := "cf78a37f1f7c7a97e5d685757478521b952c3f250088945e050e4acf970b04a7", func := "loop.example/tallyaudit/laws.FnDepthWinnerOne", spec := "fnDepthWinnerOne", inPlace := ["internal/bytealg.abigen_runtime_cmpstring", "(*sync.WaitGroup).Add", "internal/race.ReleaseMerge", "internal/race.Disable", "internal/race.Enable", "internal/synctest.IsInBubble", "internal/synctest.Associate[sync.WaitGroup]", "sync.fatal", "sync/atomic.OrUint64", "sync/atomic.AddUint64", "internal/race.Read", "sync/atomic.LoadUint64", "sync/atomic.StoreUint64", "internal/synctest.Disassociate[sync.WaitGroup]", "sync.runtime_Semrelease", "(*sync.WaitGroup).Done", "(*sync.WaitGroup).Wait", "internal/race.Acquire", "internal/synctest.IsAssociated[sync.WaitGroup]", "sync/atomic.CompareAndSwapUint64", "internal/race.Write", "sync.runtime_SemacquireWaitGroup"], unfollowed := true, recurses := true, leaving := true, apart := false }
def FnDepthWinnerOneSaid : Prop := fnDepthWinnerOneRow.holds Try.pinned (OpenSpec.ofChange fnDepthWinnerOneSpec)

/-- ITS FALSE NEIGHBOUR: 'it returns false'. Refute it at one input. -/
def fnDepthWinnerOneWrong : ChangeSpec := { name := "fnDepthWinnerOne", fn := fun _ => fun
  | [d] => { results := [.lit (.bool false)], args := [d] }
  | _ => none }
def FnDepthWinnerOneWrongFalsely : Prop := fnDepthWinnerOneRow.holds Try.pinned (OpenSpec.ofChange fnDepthWinnerOneWrong)

/-- 'laws.FnPlaces': WHATEVER THE INPUT: true; the input reads as it did. -/
def fnPlacesSpec : ChangeSpec := { name := "fnPlaces", fn := fun _ => fun
  | [d] => { results := [.lit (.bool true)], args := [d] }
  | _ => none }
def fnPlacesRow : OpenClaim := { program := "ytojfpnjnbpeniaa", sum := "cf78a37f1f7c7a97e5d685757478521b952c3f250088945e050e4acf970b04a7", func := "loop.example/tallyaudit/laws.FnPlaces", spec := "fnPlaces", inPlace := ["internal/bytealg.abigen_runtime_cmpstring"], unfollowed := true, recurses := true, leaving := true, apart := false }
def FnPlacesSaid : Prop := fnPlacesRow.holds Try.pinned (OpenSpec.ofChange fnPlacesSpec)

/-- ITS FALSE NEIGHBOUR: 'it returns false'. Refute it at one input. -/
def fnPlacesWrong : ChangeSpec := { name := "fnPlaces", fn := fun _ => fun
  | [d] => { results := [.lit (.bool false)], args := [d] }
  | _ => none }
def FnPlacesWrongFalsely : Prop := fnPlacesRow.holds Try.pinned (OpenSpec.ofChange fnPlacesWrong)

/-- 'laws.FnPlaceWinner': WHATEVER THE INPUT: true; the input reads as it did. -/
def fnPlaceWinnerSpec : ChangeSpec := { name := "fnPlaceWinner", fn := fun _ => fun
  | [d] => { results := [.lit (.bool true)], args := [d] }
  | _ => none }
def fnPlaceWinnerRow : OpenClaim := { program := "ytojfpnjnbpeniaa", sum := "cf78a37f1f7c7a97e5d685757478521b952c3f250088945e050e4acf970b04a7", func := "loop.example/tallyaudit/laws.FnPlaceWinner", spec := "fnPlaceWinner", inPlace := ["internal/bytealg.abigen_runtime_cmpstring"], unfollowed := true, recurses := true, leaving := true, apart := false }
def FnPlaceWinnerSaid : Prop := fnPlaceWinnerRow.holds Try.pinned (OpenSpec.ofChange fnPlaceWinnerSpec)

/-- ITS FALSE NEIGHBOUR: 'it returns false'. Refute it at one input. -/
def fnPlaceWinnerWrong : ChangeSpec := { name := "fnPlaceWinner", fn := fun _ => fun
  | [d] => { results := [.lit (.bool false)], args := [d] }
  | _ => none }
def FnPlaceWinnerWrongFalsely : Prop := fnPlaceWinnerRow.holds Try.pinned (OpenSpec.ofChange fnPlaceWinnerWrong)

/-- 'laws.FnPlaceTurned': WHATEVER THE INPUT: true; the input reads as it did. -/
def fnPlaceTurnedSpec : ChangeSpec := { name := "fnPlaceTurned", fn := fun _ => fun
  | [d1, d2] => { results := [.lit (.bool true)], args := [d1, d2] }
  | _ => none }
def fnPlaceTurnedRow : OpenClaim := { program := "ytojfpnjnbpeniaa", sum := "cf78a37f1f7c7a97e5d685757478521b952c3f250088945e050e4acf970b04a7", func := "loop.example/tallyaudit/laws.FnPlaceTurned", spec := "fnPlaceTurned", inPlace := ["internal/bytealg.abigen_runtime_cmpstring"], unfollowed := true, recurses := true, leaving := true, apart := false }
def FnPlaceTurnedSaid : Prop := fnPlaceTurnedRow.holds Try.pinned (OpenSpec.ofChange fnPlaceTurnedSpec)

/-- ITS FALSE NEIGHBOUR: 'it returns false'. Refute it at one input. -/
def fnPlaceTurnedWrong : ChangeSpec := { name := "fnPlaceTurned", fn := fun _ => fun
  | [d1, d2] => { results := [.lit (.bool false)], args := [d1, d2] }
  | _ => none }
def FnPlaceTurnedWrongFalsely : Prop := fnPlaceTurnedRow.holds Try.pinned (OpenSpec.ofChange fnPlaceTurnedWrong)

/-- 'laws.FnLast': WHATEVER THE INPUT: true; the input reads as it did. -/
def fnLastSpec : ChangeSpec := { name := "fnLast", fn := fun _ => fun
  | [d] => { results := [.lit (.bool true)], args := [d] }
  | _ => none }
def fnLastRow : OpenClaim := { program := "ytojfpnjnbpeniaa", sum := "cf78a37f1f7c7a97e5d685757478521b952c3f250088945e050e4acf970b04a7", func := "loop.example/tallyaudit/laws.FnLast", spec := "fnLast", inPlace := ["internal/bytealg.abigen_runtime_cmpstring", "(*sync.WaitGroup).Add", "internal/race.ReleaseMerge", "internal/race.Disable", "internal/race.Enable", "internal/synctest.IsInBubble", "internal/synctest.Associate[sync.WaitGroup]", "sync.fatal", "sync/atomic.OrUint64", "sync/atomic.AddUint64", "internal/race.Read", "sync/atomic.LoadUint64", "sync/atomic.StoreUint64", "internal/synctest.Disassociate[sync.WaitGroup]", "sync.runtime_Semrelease", "(*sync.WaitGroup).Done", "(*sync.WaitGroup).Wait", "internal/race.Acquire", "internal/synctest.IsAssociated[sync.WaitGroup]", "sync/atomic.CompareAndSwapUint64", "internal/race.Write", "sync.runtime_SemacquireWaitGroup"], unfollowed := true, recurses := true, leaving := true, apart := false }
def FnLastSaid : Prop := fnLastRow.holds Try.pinned (OpenSpec.ofChange fnLastSpec)

/-- ITS FALSE NEIGHBOUR: 'it returns false'. Refute it at one input. -/
def fnLastWrong : ChangeSpec := { name := "fnLast", fn := fun _ => fun
  | [d] => { results := [.lit (.bool false)], args := [d] }
  | _ => none }
def FnLastWrongFalsely : Prop := fnLastRow.holds Try.pinned (OpenSpec.ofChange fnLastWrong)

/-- 'laws.FnExactDepthCounts': WHATEVER THE INPUT: true; the input reads as it did. -/
def fnExactDepthCountsSpec : ChangeSpec := { name := "fnExactDepthCounts", fn := fun _ => fun
  | [d1, d2, d3] => { results := [.lit (.bool true)], args := [d1, d2, d3] }
  | _ => none }
def fnExactDepthCountsRow : OpenClaim := { program := "ytojfpnjnbpeniaa", sum := "cf78a37f1f7c7a97e5d685757478521b952c3f250088945e050e4acf970b04a7", func := "loop.example/tallyaudit/laws.FnExactDepthCounts", spec := "fnExactDepthCounts", inPlace := ["internal/bytealg.abigen_runtime_cmpstring"], unfollowed := true, recurses := true, leaving := true, apart := false }
def FnExactDepthCountsSaid : Prop := fnExactDepthCountsRow.holds Try.pinned (OpenSpec.ofChange fnExactDepthCountsSpec)

/-- ITS FALSE NEIGHBOUR: 'it returns false'. Refute it at one input. -/
def fnExactDepthCountsWrong : ChangeSpec := { name := "fnExactDepthCounts", fn := fun _ => fun
  | [d1, d2, d3] => { results := [.lit (.bool false)], args := [d1, d2, d3] }
  | _ => none }
def FnExactDepthCountsWrongFalsely : Prop := fnExactDepthCountsRow.holds Try.pinned (OpenSpec.ofChange fnExactDepthCountsWrong)

/-- 'laws.FnExactDepthWinner': WHATEVER THE INPUT: true; the input reads as it did. -/
def fnExactDepthWinnerSpec : ChangeSpec := { name := "fnExactDepthWinner", fn := fun _ => fun
  | [d1, d2] => { results := [.lit (.bool true)], args := [d1, d2] }
  | _ => none }
def fnExactDepthWinnerRow : OpenClaim := { program := "ytojfpnjnbpeniaa", sum := "cf78a37f1f7c7a97e5d685757478521b952c3f250088945e050e4acf970b04a7", func := "loop.example/tallyaudit/laws.FnExactDepthWinner", spec := "fnExactDepthWinner", inPlace := ["internal/bytealg.abigen_runtime_cmpstring"], unfollowed := true, recurses := true, leaving := true, apart := false }
def FnExactDepthWinnerSaid : Prop := fnExactDepthWinnerRow.holds Try.pinned (OpenSpec.ofChange fnExactDepthWinnerSpec)

/-- ITS FALSE NEIGHBOUR: 'it returns false'. Refute it at one input. -/
def fnExactDepthWinnerWrong : ChangeSpec := { name := "fnExactDepthWinner", fn := fun _ => fun
  | [d1, d2] => { results := [.lit (.bool false)], args := [d1, d2] }
  | _ => none }
def FnExactDepthWinnerWrongFalsely : Prop := fnExactDepthWinnerRow.holds Try.pinned (OpenSpec.ofChange fnExactDepthWinnerWrong)

/-- 'laws.FnExactPlaceCounts': WHATEVER THE INPUT: true; the input reads as it did. -/
def fnExactPlaceCountsSpec : ChangeSpec := { name := "fnExactPlaceCounts", fn := fun _ => fun
  | [d1, d2] => { results := [.lit (.bool true)], args := [d1, d2] }
  | _ => none }
def fnExactPlaceCountsRow : OpenClaim := { program := "ytojfpnjnbpeniaa", sum := "cf78a37f1f7c7a97e5d685757478521b952c3f250088945e050e4acf970b04a7", func := "loop.example/tallyaudit/laws.FnExactPlaceCounts", spec := "fnExactPlaceCounts", inPlace := ["internal/bytealg.abigen_runtime_cmpstring"], unfollowed := true, recurses := true, leaving := true, apart := false }
def FnExactPlaceCountsSaid : Prop := fnExactPlaceCountsRow.holds Try.pinned (OpenSpec.ofChange fnExactPlaceCountsSpec)

/-- ITS FALSE NEIGHBOUR: 'it returns false'. Refute it at one input. -/
def fnExactPlaceCountsWrong : ChangeSpec := { name := "fnExactPlaceCounts", fn := fun _ => fun
  | [d1, d2] => { results := [.lit (.bool false)], args := [d1, d2] }
  | _ => none }
def FnExactPlaceCountsWrongFalsely : Prop := fnExactPlaceCountsRow.holds Try.pinned (OpenSpec.ofChange fnExactPlaceCountsWrong)

/-- 'laws.FnExactPlaceWinner': WHATEVER THE INPUT: true; the input reads as it did. -/
def fnExactPlaceWinnerSpec : ChangeSpec := { name := "fnExactPlaceWinner", fn := fun _ => fun
  | [d1, d2] => { results := [.lit (.bool true)], args := [d1, d2] }
  | _ => none }
def fnExactPlaceWinnerRow : OpenClaim := { program := "ytojfpnjnbpeniaa", sum := "cf78a37f1f7c7a97e5d685757478521b952c3f250088945e050e4acf970b04a7", func := "loop.example/tallyaudit/laws.FnExactPlaceWinner", spec := "fnExactPlaceWinner", inPlace := ["internal/bytealg.abigen_runtime_cmpstring"], unfollowed := true, recurses := true, leaving := true, apart := false }
def FnExactPlaceWinnerSaid : Prop := fnExactPlaceWinnerRow.holds Try.pinned (OpenSpec.ofChange fnExactPlaceWinnerSpec)

/-- ITS FALSE NEIGHBOUR: 'it returns false'. Refute it at one input. -/
def fnExactPlaceWinnerWrong : ChangeSpec := { name := "fnExactPlaceWinner", fn := fun _ => fun
  | [d1, d2] => { results := [.lit (.bool false)], args := [d1, d2] }
  | _ => none }
def FnExactPlaceWinnerWrongFalsely : Prop := fnExactPlaceWinnerRow.holds Try.pinned (OpenSpec.ofChange fnExactPlaceWinnerWrong)

/- THE SECOND FORM. 'bulk': how many values and letters a reading holds, each counted each time it is reached (what is shared counts as often as it is met; a slice's spare places count too). A statement '..UptoSaid' is the law's where the arguments, and the package variables that the reading takes, are together of bulk at most 1048576: NARROWER than '..Said'. Prove '..Said' where nothing that the law and all that it calls make is longer than what came in: it says more and counts as full. Else prove '..UptoSaid'. A law counts once. -/
mutual
def uptoBulk {H : Type} : DataW H → Nat
  | .lit (.string bytes) => bytes.length + 1
  | .lit _ => 1
  | .nil => 1
  | .ptr d => uptoBulk d + 1
  | .slice elems spare => uptoBulkAll elems + uptoBulkAll spare + 1
  | .agg parts => uptoBulkAll parts + 1
  | .iface _ d => uptoBulk d + 1
  | .map entries => uptoBulkEntries entries + 1
  | .held _ => 1
def uptoBulkAll {H : Type} : List (DataW H) → Nat
  | [] => 0
  | d :: r => uptoBulk d + uptoBulkAll r
def uptoBulkEntries {H : Type} : List (Lit × DataW H) → Nat
  | [] => 0
  | x :: r => uptoBulkEntry x + uptoBulkEntries r
def uptoBulkEntry {H : Type} : Lit × DataW H → Nat
  | (.string bytes, d) => bytes.length + uptoBulk d + 1
  | (_, d) => uptoBulk d + 1
 end
def uptoSmall : (H : Type) → List (DataW H) → Bool := fun _ ds => decide (uptoBulkAll ds ≤ 1048576)
def OpenSpec.upto (s : _root_.Go.ChangeSpec) : _root_.Go.OpenSpec := { _root_.Go.OpenSpec.ofChange s with cond := some uptoSmall }

/-- 'laws.FnDepth', WHERE WHAT IT READS IS OF BULK AT MOST 1048576: true; the input reads as it did. -/
def fnDepthUptoRow : OpenClaim := { program := "ytojfpnjnbpeniaa", sum := "cf78a37f1f7c7a97e5d685757478521b952c3f250088945e050e4acf970b04a7", func := "loop.example/tallyaudit/laws.FnDepth", spec := "fnDepth", inPlace := ["internal/bytealg.abigen_runtime_cmpstring", "(*sync.WaitGroup).Add", "internal/race.ReleaseMerge", "internal/race.Disable", "internal/race.Enable", "internal/synctest.IsInBubble", "internal/synctest.Associate[sync.WaitGroup]", "sync.fatal", "sync/atomic.OrUint64", "sync/atomic.AddUint64", "internal/race.Read", "sync/atomic.LoadUint64", "sync/atomic.StoreUint64", "internal/synctest.Disassociate[sync.WaitGroup]", "sync.runtime_Semrelease", "(*sync.WaitGroup).Done", "(*sync.WaitGroup).Wait", "internal/race.Acquire", "internal/synctest.IsAssociated[sync.WaitGroup]", "sync/atomic.CompareAndSwapUint64", "internal/race.Write", "sync.runtime_SemacquireWaitGroup"], unfollowed := true, recurses := true, leaving := true, apart := false, narrowed := true }
def FnDepthUptoSaid : Prop := fnDepthUptoRow.holds Try.pinned (OpenSpec.upto fnDepthSpec)

/-- 'laws.FnDepthAll', WHERE WHAT IT READS IS OF BULK AT MOST 1048576: true; the input reads as it did. -/
def fnDepthAllUptoRow : OpenClaim := { program := "ytojfpnjnbpeniaa", sum := "cf78a37f1f7c7a97e5d685757478521b952c3f250088945e050e4acf970b04a7", func := "loop.example/tallyaudit/laws.FnDepthAll", spec := "fnDepthAll", inPlace := ["internal/bytealg.abigen_runtime_cmpstring"], unfollowed := true, recurses := true, leaving := true, apart := false, narrowed := true }
def FnDepthAllUptoSaid : Prop := fnDepthAllUptoRow.holds Try.pinned (OpenSpec.upto fnDepthAllSpec)

/-- 'laws.FnDepthWinner', WHERE WHAT IT READS IS OF BULK AT MOST 1048576: true; the input reads as it did. -/
def fnDepthWinnerUptoRow : OpenClaim := { program := "ytojfpnjnbpeniaa", sum := "cf78a37f1f7c7a97e5d685757478521b952c3f250088945e050e4acf970b04a7", func := "loop.example/tallyaudit/laws.FnDepthWinner", spec := "fnDepthWinner", inPlace := ["internal/bytealg.abigen_runtime_cmpstring"], unfollowed := true, recurses := true, leaving := true, apart := false, narrowed := true }
def FnDepthWinnerUptoSaid : Prop := fnDepthWinnerUptoRow.holds Try.pinned (OpenSpec.upto fnDepthWinnerSpec)

/-- 'laws.FnDepthWinnerOne', WHERE WHAT IT READS IS OF BULK AT MOST 1048576: true; the input reads as it did. -/
def fnDepthWinnerOneUptoRow : OpenClaim := { program := "ytojfpnjnbpeniaa", sum := "cf78a37f1f7c7a97e5d685757478521b952c3f250088945e050e4acf970b04a7", func := "loop.example/tallyaudit/laws.FnDepthWinnerOne", spec := "fnDepthWinnerOne", inPlace := ["internal/bytealg.abigen_runtime_cmpstring", "(*sync.WaitGroup).Add", "internal/race.ReleaseMerge", "internal/race.Disable", "internal/race.Enable", "internal/synctest.IsInBubble", "internal/synctest.Associate[sync.WaitGroup]", "sync.fatal", "sync/atomic.OrUint64", "sync/atomic.AddUint64", "internal/race.Read", "sync/atomic.LoadUint64", "sync/atomic.StoreUint64", "internal/synctest.Disassociate[sync.WaitGroup]", "sync.runtime_Semrelease", "(*sync.WaitGroup).Done", "(*sync.WaitGroup).Wait", "internal/race.Acquire", "internal/synctest.IsAssociated[sync.WaitGroup]", "sync/atomic.CompareAndSwapUint64", "internal/race.Write", "sync.runtime_SemacquireWaitGroup"], unfollowed := true, recurses := true, leaving := true, apart := false, narrowed := true }
def FnDepthWinnerOneUptoSaid : Prop := fnDepthWinnerOneUptoRow.holds Try.pinned (OpenSpec.upto fnDepthWinnerOneSpec)

/-- 'laws.FnPlaces', WHERE WHAT IT READS IS OF BULK AT MOST 1048576: true; the input reads as it did. -/
def fnPlacesUptoRow : OpenClaim := { program := "ytojfpnjnbpeniaa", sum := "cf78a37f1f7c7a97e5d685757478521b952c3f250088945e050e4acf970b04a7", func := "loop.example/tallyaudit/laws.FnPlaces", spec := "fnPlaces", inPlace := ["internal/bytealg.abigen_runtime_cmpstring"], unfollowed := true, recurses := true, leaving := true, apart := false, narrowed := true }
def FnPlacesUptoSaid : Prop := fnPlacesUptoRow.holds Try.pinned (OpenSpec.upto fnPlacesSpec)

/-- 'laws.FnPlaceWinner', WHERE WHAT IT READS IS OF BULK AT MOST 1048576: true; the input reads as it did. -/
def fnPlaceWinnerUptoRow : OpenClaim := { program := "ytojfpnjnbpeniaa", sum := "cf78a37f1f7c7a97e5d685757478521b952c3f250088945e050e4acf970b04a7", func := "loop.example/tallyaudit/laws.FnPlaceWinner", spec := "fnPlaceWinner", inPlace := ["internal/bytealg.abigen_runtime_cmpstring"], unfollowed := true, recurses := true, leaving := true, apart := false, narrowed := true }
def FnPlaceWinnerUptoSaid : Prop := fnPlaceWinnerUptoRow.holds Try.pinned (OpenSpec.upto fnPlaceWinnerSpec)

/-- 'laws.FnPlaceTurned', WHERE WHAT IT READS IS OF BULK AT MOST 1048576: true; the input reads as it did. -/
def fnPlaceTurnedUptoRow : OpenClaim := { program := "ytojfpnjnbpeniaa", sum := "cf78a37f1f7c7a97e5d685757478521b952c3f250088945e050e4acf970b04a7", func := "loop.example/tallyaudit/laws.FnPlaceTurned", spec := "fnPlaceTurned", inPlace := ["internal/bytealg.abigen_runtime_cmpstring"], unfollowed := true, recurses := true, leaving := true, apart := false, narrowed := true }
def FnPlaceTurnedUptoSaid : Prop := fnPlaceTurnedUptoRow.holds Try.pinned (OpenSpec.upto fnPlaceTurnedSpec)

/-- 'laws.FnLast', WHERE WHAT IT READS IS OF BULK AT MOST 1048576: true; the input reads as it did. -/
def fnLastUptoRow : OpenClaim := { program := "ytojfpnjnbpeniaa", sum := "cf78a37f1f7c7a97e5d685757478521b952c3f250088945e050e4acf970b04a7", func := "loop.example/tallyaudit/laws.FnLast", spec := "fnLast", inPlace := ["internal/bytealg.abigen_runtime_cmpstring", "(*sync.WaitGroup).Add", "internal/race.ReleaseMerge", "internal/race.Disable", "internal/race.Enable", "internal/synctest.IsInBubble", "internal/synctest.Associate[sync.WaitGroup]", "sync.fatal", "sync/atomic.OrUint64", "sync/atomic.AddUint64", "internal/race.Read", "sync/atomic.LoadUint64", "sync/atomic.StoreUint64", "internal/synctest.Disassociate[sync.WaitGroup]", "sync.runtime_Semrelease", "(*sync.WaitGroup).Done", "(*sync.WaitGroup).Wait", "internal/race.Acquire", "internal/synctest.IsAssociated[sync.WaitGroup]", "sync/atomic.CompareAndSwapUint64", "internal/race.Write", "sync.runtime_SemacquireWaitGroup"], unfollowed := true, recurses := true, leaving := true, apart := false, narrowed := true }
def FnLastUptoSaid : Prop := fnLastUptoRow.holds Try.pinned (OpenSpec.upto fnLastSpec)

/-- 'laws.FnExactDepthCounts', WHERE WHAT IT READS IS OF BULK AT MOST 1048576: true; the input reads as it did. -/
def fnExactDepthCountsUptoRow : OpenClaim := { program := "ytojfpnjnbpeniaa", sum := "cf78a37f1f7c7a97e5d685757478521b952c3f250088945e050e4acf970b04a7", func := "loop.example/tallyaudit/laws.FnExactDepthCounts", spec := "fnExactDepthCounts", inPlace := ["internal/bytealg.abigen_runtime_cmpstring"], unfollowed := true, recurses := true, leaving := true, apart := false, narrowed := true }
def FnExactDepthCountsUptoSaid : Prop := fnExactDepthCountsUptoRow.holds Try.pinned (OpenSpec.upto fnExactDepthCountsSpec)

/-- 'laws.FnExactDepthWinner', WHERE WHAT IT READS IS OF BULK AT MOST 1048576: true; the input reads as it did. -/
def fnExactDepthWinnerUptoRow : OpenClaim := { program := "ytojfpnjnbpeniaa", sum := "cf78a37f1f7c7a97e5d685757478521b952c3f250088945e050e4acf970b04a7", func := "loop.example/tallyaudit/laws.FnExactDepthWinner", spec := "fnExactDepthWinner", inPlace := ["internal/bytealg.abigen_runtime_cmpstring"], unfollowed := true, recurses := true, leaving := true, apart := false, narrowed := true }
def FnExactDepthWinnerUptoSaid : Prop := fnExactDepthWinnerUptoRow.holds Try.pinned (OpenSpec.upto fnExactDepthWinnerSpec)

/-- 'laws.FnExactPlaceCounts', WHERE WHAT IT READS IS OF BULK AT MOST 1048576: true; the input reads as it did. -/
def fnExactPlaceCountsUptoRow : OpenClaim := { program := "ytojfpnjnbpeniaa", sum := "cf78a37f1f7c7a97e5d685757478521b952c3f250088945e050e4acf970b04a7", func := "loop.example/tallyaudit/laws.FnExactPlaceCounts", spec := "fnExactPlaceCounts", inPlace := ["internal/bytealg.abigen_runtime_cmpstring"], unfollowed := true, recurses := true, leaving := true, apart := false, narrowed := true }
def FnExactPlaceCountsUptoSaid : Prop := fnExactPlaceCountsUptoRow.holds Try.pinned (OpenSpec.upto fnExactPlaceCountsSpec)

/-- 'laws.FnExactPlaceWinner', WHERE WHAT IT READS IS OF BULK AT MOST 1048576: true; the input reads as it did. -/
def fnExactPlaceWinnerUptoRow : OpenClaim := { program := "ytojfpnjnbpeniaa", sum := "cf78a37f1f7c7a97e5d685757478521b952c3f250088945e050e4acf970b04a7", func := "loop.example/tallyaudit/laws.FnExactPlaceWinner", spec := "fnExactPlaceWinner", inPlace := ["internal/bytealg.abigen_runtime_cmpstring"], unfollowed := true, recurses := true, leaving := true, apart := false, narrowed := true }
def FnExactPlaceWinnerUptoSaid : Prop := fnExactPlaceWinnerUptoRow.holds Try.pinned (OpenSpec.upto fnExactPlaceWinnerSpec)

end Rows
end Go.Proofs.Ytojfpnjnbpeniaa
