/-
  No cell of these rows narrows 'for every input' (looked for: loops, veiled, ifaces, maps, wideKeys, modest, calm, conditions, laid).
  DERIVED. THE GIVEN ROWS OF THIS SEAT. 12 by the template 'for every input the law returns true; each argument reads behind the call as it read before'; 0 by the template 'total and deterministic' (their statements: YtaaamidkfhabnaaTotals.lean).
  GIVEN WITH THE SEED: the statements are not yours to turn. If you find one false, say at which input.
  Laid BY PROGRAM, IN A SANDBOX (cutbox-rows.mjs): the forced cells as the released guide's own fill.sh prints them over the translation 886eead01022c75e… (all of the seat's roots in one cut). By AI agents, Wed Nov 11 2026. No macro, syntax, notation, axiom, sorry.
-/
import Derived.Test.YtaaamidkfhabnaaChecked
import GoSem.Claim
import GoSem.ClaimJoined
import GoSem.ClaimMapViews
import Derived.JoinedTies
import Derived.KernelRfl
namespace Go.Proofs.Ytaaamidkfhabnaa
/- THE CELL 'sum', in the pinned program and in every row, IS THE sha256 OF THE DUMP (.gsa) THAT YtaaamidkfhabnaaProg.lean LOADS. Nothing in Lean hashes anything: it is a label: what it is worth is what the hold of that sum in a sandbox is worth. -/
noncomputable def Try.pinned : Pinned := { name := "ytaaamidkfhabnaa", sum := "886eead01022c75e6394b484250283935ee682e53672a95e96ad71c0324a69d4", checked := Try.checked }
namespace Rows
def none {H : Type} : Left H := { results := [], args := [] }

/-- 'laws.FnPairCounts': WHATEVER THE INPUT: true; the input reads as it did. -/
def fnPairCountsSpec : ChangeSpec := { name := "fnPairCounts", fn := fun _ => fun
  | [d] => { results := [.lit (.bool true)], args := [d] }
  | _ => none }
def fnPairCountsRow : OpenClaim := { program := "ytaaamidkfhabnaa", sum := "886eead01022c75e6394b484250283935ee682e53672a95e96ad71c0324a69d4", func := "loop.example/tallyaudit/laws.FnPairCounts", spec := "fnPairCounts", inPlace := ["internal/bytealg.abigen_runtime_cmpstring"], unfollowed := true, recurses := true, apart := false }
def FnPairCountsSaid : Prop := fnPairCountsRow.holds Try.pinned (OpenSpec.ofChange fnPairCountsSpec)

/-- ITS FALSE NEIGHBOUR: 'it returns false'. Refute it at one input. -/
def fnPairCountsWrong : ChangeSpec := { name := "fnPairCounts", fn := fun _ => fun
  | [d] => { results := [.lit (.bool false)], args := [d] }
  | _ => none }
def FnPairCountsWrongFalsely : Prop := fnPairCountsRow.holds Try.pinned (OpenSpec.ofChange fnPairCountsWrong)

/-- 'laws.FnPairCountsMerge': WHATEVER THE INPUT: true; the input reads as it did. -/
def fnPairCountsMergeSpec : ChangeSpec := { name := "fnPairCountsMerge", fn := fun _ => fun
  | [d1, d2] => { results := [.lit (.bool true)], args := [d1, d2] }
  | _ => none }
def fnPairCountsMergeRow : OpenClaim := { program := "ytaaamidkfhabnaa", sum := "886eead01022c75e6394b484250283935ee682e53672a95e96ad71c0324a69d4", func := "loop.example/tallyaudit/laws.FnPairCountsMerge", spec := "fnPairCountsMerge", inPlace := ["internal/bytealg.abigen_runtime_cmpstring"], unfollowed := true, recurses := true, apart := false }
def FnPairCountsMergeSaid : Prop := fnPairCountsMergeRow.holds Try.pinned (OpenSpec.ofChange fnPairCountsMergeSpec)

/-- ITS FALSE NEIGHBOUR: 'it returns false'. Refute it at one input. -/
def fnPairCountsMergeWrong : ChangeSpec := { name := "fnPairCountsMerge", fn := fun _ => fun
  | [d1, d2] => { results := [.lit (.bool false)], args := [d1, d2] }
  | _ => none }
def FnPairCountsMergeWrongFalsely : Prop := fnPairCountsMergeRow.holds Try.pinned (OpenSpec.ofChange fnPairCountsMergeWrong)

/-- 'laws.FnPairWinner': WHATEVER THE INPUT: true; the input reads as it did. -/
def fnPairWinnerSpec : ChangeSpec := { name := "fnPairWinner", fn := fun _ => fun
  | [d] => { results := [.lit (.bool true)], args := [d] }
  | _ => none }
def fnPairWinnerRow : OpenClaim := { program := "ytaaamidkfhabnaa", sum := "886eead01022c75e6394b484250283935ee682e53672a95e96ad71c0324a69d4", func := "loop.example/tallyaudit/laws.FnPairWinner", spec := "fnPairWinner", inPlace := ["internal/bytealg.abigen_runtime_cmpstring"], unfollowed := true, recurses := true, apart := false }
def FnPairWinnerSaid : Prop := fnPairWinnerRow.holds Try.pinned (OpenSpec.ofChange fnPairWinnerSpec)

/-- ITS FALSE NEIGHBOUR: 'it returns false'. Refute it at one input. -/
def fnPairWinnerWrong : ChangeSpec := { name := "fnPairWinner", fn := fun _ => fun
  | [d] => { results := [.lit (.bool false)], args := [d] }
  | _ => none }
def FnPairWinnerWrongFalsely : Prop := fnPairWinnerRow.holds Try.pinned (OpenSpec.ofChange fnPairWinnerWrong)

/-- 'laws.FnPairWinnerNone': WHATEVER THE INPUT: true; the input reads as it did. -/
def fnPairWinnerNoneSpec : ChangeSpec := { name := "fnPairWinnerNone", fn := fun _ => fun
  | [d] => { results := [.lit (.bool true)], args := [d] }
  | _ => none }
def fnPairWinnerNoneRow : OpenClaim := { program := "ytaaamidkfhabnaa", sum := "886eead01022c75e6394b484250283935ee682e53672a95e96ad71c0324a69d4", func := "loop.example/tallyaudit/laws.FnPairWinnerNone", spec := "fnPairWinnerNone", inPlace := ["internal/bytealg.abigen_runtime_cmpstring"], unfollowed := true, recurses := true, apart := false }
def FnPairWinnerNoneSaid : Prop := fnPairWinnerNoneRow.holds Try.pinned (OpenSpec.ofChange fnPairWinnerNoneSpec)

/-- ITS FALSE NEIGHBOUR: 'it returns false'. Refute it at one input. -/
def fnPairWinnerNoneWrong : ChangeSpec := { name := "fnPairWinnerNone", fn := fun _ => fun
  | [d] => { results := [.lit (.bool false)], args := [d] }
  | _ => none }
def FnPairWinnerNoneWrongFalsely : Prop := fnPairWinnerNoneRow.holds Try.pinned (OpenSpec.ofChange fnPairWinnerNoneWrong)

/-- 'laws.FnPairTop': WHATEVER THE INPUT: true; the input reads as it did. -/
def fnPairTopSpec : ChangeSpec := { name := "fnPairTop", fn := fun _ => fun
  | [d] => { results := [.lit (.bool true)], args := [d] }
  | _ => none }
def fnPairTopRow : OpenClaim := { program := "ytaaamidkfhabnaa", sum := "886eead01022c75e6394b484250283935ee682e53672a95e96ad71c0324a69d4", func := "loop.example/tallyaudit/laws.FnPairTop", spec := "fnPairTop", inPlace := ["internal/bytealg.abigen_runtime_cmpstring"], unfollowed := true, recurses := true, apart := false }
def FnPairTopSaid : Prop := fnPairTopRow.holds Try.pinned (OpenSpec.ofChange fnPairTopSpec)

/-- ITS FALSE NEIGHBOUR: 'it returns false'. Refute it at one input. -/
def fnPairTopWrong : ChangeSpec := { name := "fnPairTop", fn := fun _ => fun
  | [d] => { results := [.lit (.bool false)], args := [d] }
  | _ => none }
def FnPairTopWrongFalsely : Prop := fnPairTopRow.holds Try.pinned (OpenSpec.ofChange fnPairTopWrong)

/-- 'laws.FnPairTopLeast': WHATEVER THE INPUT: true; the input reads as it did. -/
def fnPairTopLeastSpec : ChangeSpec := { name := "fnPairTopLeast", fn := fun _ => fun
  | [d] => { results := [.lit (.bool true)], args := [d] }
  | _ => none }
def fnPairTopLeastRow : OpenClaim := { program := "ytaaamidkfhabnaa", sum := "886eead01022c75e6394b484250283935ee682e53672a95e96ad71c0324a69d4", func := "loop.example/tallyaudit/laws.FnPairTopLeast", spec := "fnPairTopLeast", inPlace := ["internal/bytealg.abigen_runtime_cmpstring"], unfollowed := true, recurses := true, apart := false }
def FnPairTopLeastSaid : Prop := fnPairTopLeastRow.holds Try.pinned (OpenSpec.ofChange fnPairTopLeastSpec)

/-- ITS FALSE NEIGHBOUR: 'it returns false'. Refute it at one input. -/
def fnPairTopLeastWrong : ChangeSpec := { name := "fnPairTopLeast", fn := fun _ => fun
  | [d] => { results := [.lit (.bool false)], args := [d] }
  | _ => none }
def FnPairTopLeastWrongFalsely : Prop := fnPairTopLeastRow.holds Try.pinned (OpenSpec.ofChange fnPairTopLeastWrong)

/-- 'laws.FnPairPaths': WHATEVER THE INPUT: true; the input reads as it did. -/
def fnPairPathsSpec : ChangeSpec := { name := "fnPairPaths", fn := fun _ => fun
  | [d] => { results := [.lit (.bool true)], args := [d] }
  | _ => none }
def fnPairPathsRow : OpenClaim := { program := "ytaaamidkfhabnaa", sum := "886eead01022c75e6394b484250283935ee682e53672a95e96ad71c0324a69d4", func := "loop.example/tallyaudit/laws.FnPairPaths", spec := "fnPairPaths", inPlace := ["internal/bytealg.abigen_runtime_cmpstring"], unfollowed := true, recurses := true, apart := false }
def FnPairPathsSaid : Prop := fnPairPathsRow.holds Try.pinned (OpenSpec.ofChange fnPairPathsSpec)

/-- ITS FALSE NEIGHBOUR: 'it returns false'. Refute it at one input. -/
def fnPairPathsWrong : ChangeSpec := { name := "fnPairPaths", fn := fun _ => fun
  | [d] => { results := [.lit (.bool false)], args := [d] }
  | _ => none }
def FnPairPathsWrongFalsely : Prop := fnPairPathsRow.holds Try.pinned (OpenSpec.ofChange fnPairPathsWrong)

/-- 'laws.FnPairPathsStep': WHATEVER THE INPUT: true; the input reads as it did. -/
def fnPairPathsStepSpec : ChangeSpec := { name := "fnPairPathsStep", fn := fun _ => fun
  | [d] => { results := [.lit (.bool true)], args := [d] }
  | _ => none }
def fnPairPathsStepRow : OpenClaim := { program := "ytaaamidkfhabnaa", sum := "886eead01022c75e6394b484250283935ee682e53672a95e96ad71c0324a69d4", func := "loop.example/tallyaudit/laws.FnPairPathsStep", spec := "fnPairPathsStep", inPlace := ["internal/bytealg.abigen_runtime_cmpstring"], unfollowed := true, recurses := true, apart := false }
def FnPairPathsStepSaid : Prop := fnPairPathsStepRow.holds Try.pinned (OpenSpec.ofChange fnPairPathsStepSpec)

/-- ITS FALSE NEIGHBOUR: 'it returns false'. Refute it at one input. -/
def fnPairPathsStepWrong : ChangeSpec := { name := "fnPairPathsStep", fn := fun _ => fun
  | [d] => { results := [.lit (.bool false)], args := [d] }
  | _ => none }
def FnPairPathsStepWrongFalsely : Prop := fnPairPathsStepRow.holds Try.pinned (OpenSpec.ofChange fnPairPathsStepWrong)

/-- 'laws.FnPairBest': WHATEVER THE INPUT: true; the input reads as it did. -/
def fnPairBestSpec : ChangeSpec := { name := "fnPairBest", fn := fun _ => fun
  | [d] => { results := [.lit (.bool true)], args := [d] }
  | _ => none }
def fnPairBestRow : OpenClaim := { program := "ytaaamidkfhabnaa", sum := "886eead01022c75e6394b484250283935ee682e53672a95e96ad71c0324a69d4", func := "loop.example/tallyaudit/laws.FnPairBest", spec := "fnPairBest", inPlace := ["internal/bytealg.abigen_runtime_cmpstring"], unfollowed := true, recurses := true, apart := false }
def FnPairBestSaid : Prop := fnPairBestRow.holds Try.pinned (OpenSpec.ofChange fnPairBestSpec)

/-- ITS FALSE NEIGHBOUR: 'it returns false'. Refute it at one input. -/
def fnPairBestWrong : ChangeSpec := { name := "fnPairBest", fn := fun _ => fun
  | [d] => { results := [.lit (.bool false)], args := [d] }
  | _ => none }
def FnPairBestWrongFalsely : Prop := fnPairBestRow.holds Try.pinned (OpenSpec.ofChange fnPairBestWrong)

/-- 'laws.FnPairBestPaths': WHATEVER THE INPUT: true; the input reads as it did. -/
def fnPairBestPathsSpec : ChangeSpec := { name := "fnPairBestPaths", fn := fun _ => fun
  | [d] => { results := [.lit (.bool true)], args := [d] }
  | _ => none }
def fnPairBestPathsRow : OpenClaim := { program := "ytaaamidkfhabnaa", sum := "886eead01022c75e6394b484250283935ee682e53672a95e96ad71c0324a69d4", func := "loop.example/tallyaudit/laws.FnPairBestPaths", spec := "fnPairBestPaths", inPlace := ["internal/bytealg.abigen_runtime_cmpstring"], unfollowed := true, recurses := true, apart := false }
def FnPairBestPathsSaid : Prop := fnPairBestPathsRow.holds Try.pinned (OpenSpec.ofChange fnPairBestPathsSpec)

/-- ITS FALSE NEIGHBOUR: 'it returns false'. Refute it at one input. -/
def fnPairBestPathsWrong : ChangeSpec := { name := "fnPairBestPaths", fn := fun _ => fun
  | [d] => { results := [.lit (.bool false)], args := [d] }
  | _ => none }
def FnPairBestPathsWrongFalsely : Prop := fnPairBestPathsRow.holds Try.pinned (OpenSpec.ofChange fnPairBestPathsWrong)

/-- 'laws.FnPairTurned': WHATEVER THE INPUT: true; the input reads as it did. -/
def fnPairTurnedSpec : ChangeSpec := { name := "fnPairTurned", fn := fun _ => fun
  | [d1, d2] => { results := [.lit (.bool true)], args := [d1, d2] }
  | _ => none }
def fnPairTurnedRow : OpenClaim := { program := "ytaaamidkfhabnaa", sum := "886eead01022c75e6394b484250283935ee682e53672a95e96ad71c0324a69d4", func := "loop.example/tallyaudit/laws.FnPairTurned", spec := "fnPairTurned", inPlace := ["internal/bytealg.abigen_runtime_cmpstring"], unfollowed := true, recurses := true, apart := false }
def FnPairTurnedSaid : Prop := fnPairTurnedRow.holds Try.pinned (OpenSpec.ofChange fnPairTurnedSpec)

/-- ITS FALSE NEIGHBOUR: 'it returns false'. Refute it at one input. -/
def fnPairTurnedWrong : ChangeSpec := { name := "fnPairTurned", fn := fun _ => fun
  | [d1, d2] => { results := [.lit (.bool false)], args := [d1, d2] }
  | _ => none }
def FnPairTurnedWrongFalsely : Prop := fnPairTurnedRow.holds Try.pinned (OpenSpec.ofChange fnPairTurnedWrong)

/-- 'laws.FnExactPairCounts': WHATEVER THE INPUT: true; the input reads as it did. -/
def fnExactPairCountsSpec : ChangeSpec := { name := "fnExactPairCounts", fn := fun _ => fun
  | [d1, d2] => { results := [.lit (.bool true)], args := [d1, d2] }
  | _ => none }
def fnExactPairCountsRow : OpenClaim := { program := "ytaaamidkfhabnaa", sum := "886eead01022c75e6394b484250283935ee682e53672a95e96ad71c0324a69d4", func := "loop.example/tallyaudit/laws.FnExactPairCounts", spec := "fnExactPairCounts", inPlace := ["internal/bytealg.abigen_runtime_cmpstring"], unfollowed := true, recurses := true, apart := false }
def FnExactPairCountsSaid : Prop := fnExactPairCountsRow.holds Try.pinned (OpenSpec.ofChange fnExactPairCountsSpec)

/-- ITS FALSE NEIGHBOUR: 'it returns false'. Refute it at one input. -/
def fnExactPairCountsWrong : ChangeSpec := { name := "fnExactPairCounts", fn := fun _ => fun
  | [d1, d2] => { results := [.lit (.bool false)], args := [d1, d2] }
  | _ => none }
def FnExactPairCountsWrongFalsely : Prop := fnExactPairCountsRow.holds Try.pinned (OpenSpec.ofChange fnExactPairCountsWrong)

/- THE SECOND FORM. 'bulk': how many values and letters a reading holds, each counted each time it is reached (what is shared counts as often as it is met; a slice's spare places count too). A statement '..UptoSaid' is the law's where the arguments, and the package variables that the reading takes, are together of bulk at most 1048576: NARROWER than '..Said'. Prove '..Said' where nothing that the law and all that it calls make is longer than what came in: it says more and counts as full. Else prove '..UptoSaid'. A law counts once. -/
mutual
def uptoBulk {H : Type} : DataW H → Nat
  | .lit (.string bytes) => bytes.length + 1
  | .lit _ => 1
  | .nil => 1
  | .ptr d => uptoBulk d + 1
  | .slice elems spare => uptoBulkAll elems + uptoBulkAll spare + 1
  | .agg parts => uptoBulkAll parts + 1
  | .iface _ d => uptoBulk d + 1
  | .map entries => uptoBulkEntries entries + 1
  | .held _ => 1
def uptoBulkAll {H : Type} : List (DataW H) → Nat
  | [] => 0
  | d :: r => uptoBulk d + uptoBulkAll r
def uptoBulkEntries {H : Type} : List (Lit × DataW H) → Nat
  | [] => 0
  | x :: r => uptoBulkEntry x + uptoBulkEntries r
def uptoBulkEntry {H : Type} : Lit × DataW H → Nat
  | (.string bytes, d) => bytes.length + uptoBulk d + 1
  | (_, d) => uptoBulk d + 1
 end
def uptoSmall : (H : Type) → List (DataW H) → Bool := fun _ ds => decide (uptoBulkAll ds ≤ 1048576)
def OpenSpec.upto (s : _root_.Go.ChangeSpec) : _root_.Go.OpenSpec := { _root_.Go.OpenSpec.ofChange s with cond := some uptoSmall }

/-- 'laws.FnPairCounts', WHERE WHAT IT READS IS OF BULK AT MOST 1048576: true; the input reads as it did. -/
def fnPairCountsUptoRow : OpenClaim := { program := "ytaaamidkfhabnaa", sum := "886eead01022c75e6394b484250283935ee682e53672a95e96ad71c0324a69d4", func := "loop.example/tallyaudit/laws.FnPairCounts", spec := "fnPairCounts", inPlace := ["internal/bytealg.abigen_runtime_cmpstring"], unfollowed := true, recurses := true, apart := false, narrowed := true }
def FnPairCountsUptoSaid : Prop := fnPairCountsUptoRow.holds Try.pinned (OpenSpec.upto fnPairCountsSpec)

/-- 'laws.FnPairCountsMerge', WHERE WHAT IT READS IS OF BULK AT MOST 1048576: true; the input reads as it did. -/
def fnPairCountsMergeUptoRow : OpenClaim := { program := "ytaaamidkfhabnaa", sum := "886eead01022c75e6394b484250283935ee682e53672a95e96ad71c0324a69d4", func := "loop.example/tallyaudit/laws.FnPairCountsMerge", spec := "fnPairCountsMerge", inPlace := ["internal/bytealg.abigen_runtime_cmpstring"], unfollowed := true, recurses := true, apart := false, narrowed := true }
def FnPairCountsMergeUptoSaid : Prop := fnPairCountsMergeUptoRow.holds Try.pinned (OpenSpec.upto fnPairCountsMergeSpec)

/-- 'laws.FnPairWinner', WHERE WHAT IT READS IS OF BULK AT MOST 1048576: true; the input reads as it did. -/
def fnPairWinnerUptoRow : OpenClaim := { program := "ytaaamidkfhabnaa", sum := "886eead01022c75e6394b484250283935ee682e53672a95e96ad71c0324a69d4", func := "loop.example/tallyaudit/laws.FnPairWinner", spec := "fnPairWinner", inPlace := ["internal/bytealg.abigen_runtime_cmpstring"], unfollowed := true, recurses := true, apart := false, narrowed := true }
def FnPairWinnerUptoSaid : Prop := fnPairWinnerUptoRow.holds Try.pinned (OpenSpec.upto fnPairWinnerSpec)

/-- 'laws.FnPairWinnerNone', WHERE WHAT IT READS IS OF BULK AT MOST 1048576: true; the input reads as it did. -/
def fnPairWinnerNoneUptoRow : OpenClaim := { program := "ytaaamidkfhabnaa", sum := "886eead01022c75e6394b484250283935ee682e53672a95e96ad71c0324a69d4", func := "loop.example/tallyaudit/laws.FnPairWinnerNone", spec := "fnPairWinnerNone", inPlace := ["internal/bytealg.abigen_runtime_cmpstring"], unfollowed := true, recurses := true, apart := false, narrowed := true }
def FnPairWinnerNoneUptoSaid : Prop := fnPairWinnerNoneUptoRow.holds Try.pinned (OpenSpec.upto fnPairWinnerNoneSpec)

/-- 'laws.FnPairTop', WHERE WHAT IT READS IS OF BULK AT MOST 1048576: true; the input reads as it did. -/
def fnPairTopUptoRow : OpenClaim := { program := "ytaaamidkfhabnaa", sum := "886eead01022c75e6394b484250283935ee682e53672a95e96ad71c0324a69d4", func := "loop.example/tallyaudit/laws.FnPairTop", spec := "fnPairTop", inPlace := ["internal/bytealg.abigen_runtime_cmpstring"], unfollowed := true, recurses := true, apart := false, narrowed := true }
def FnPairTopUptoSaid : Prop := fnPairTopUptoRow.holds Try.pinned (OpenSpec.upto fnPairTopSpec)

/-- 'laws.FnPairTopLeast', WHERE WHAT IT READS IS OF BULK AT MOST 1048576: true; the input reads as it did. -/
def fnPairTopLeastUptoRow : OpenClaim := { program := "ytaaamidkfhabnaa", sum := "886eead01022c75e6394b484250283935ee682e53672a95e96ad71c0324a69d4", func := "loop.example/tallyaudit/laws.FnPairTopLeast", spec := "fnPairTopLeast", inPlace := ["internal/bytealg.abigen_runtime_cmpstring"], unfollowed := true, recurses := true, apart := false, narrowed := true }
def FnPairTopLeastUptoSaid : Prop := fnPairTopLeastUptoRow.holds Try.pinned (OpenSpec.upto fnPairTopLeastSpec)

/-- 'laws.FnPairPaths', WHERE WHAT IT READS IS OF BULK AT MOST 1048576: true; the input reads as it did. -/
def fnPairPathsUptoRow : OpenClaim := { program := "ytaaamidkfhabnaa", sum := "886eead01022c75e6394b484250283935ee682e53672a95e96ad71c0324a69d4", func := "loop.example/tallyaudit/laws.FnPairPaths", spec := "fnPairPaths", inPlace := ["internal/bytealg.abigen_runtime_cmpstring"], unfollowed := true, recurses := true, apart := false, narrowed := true }
def FnPairPathsUptoSaid : Prop := fnPairPathsUptoRow.holds Try.pinned (OpenSpec.upto fnPairPathsSpec)

/-- 'laws.FnPairPathsStep', WHERE WHAT IT READS IS OF BULK AT MOST 1048576: true; the input reads as it did. -/
def fnPairPathsStepUptoRow : OpenClaim := { program := "ytaaamidkfhabnaa", sum := "886eead01022c75e6394b484250283935ee682e53672a95e96ad71c0324a69d4", func := "loop.example/tallyaudit/laws.FnPairPathsStep", spec := "fnPairPathsStep", inPlace := ["internal/bytealg.abigen_runtime_cmpstring"], unfollowed := true, recurses := true, apart := false, narrowed := true }
def FnPairPathsStepUptoSaid : Prop := fnPairPathsStepUptoRow.holds Try.pinned (OpenSpec.upto fnPairPathsStepSpec)

/-- 'laws.FnPairBest', WHERE WHAT IT READS IS OF BULK AT MOST 1048576: true; the input reads as it did. -/
def fnPairBestUptoRow : OpenClaim := { program := "ytaaamidkfhabnaa", sum := "886eead01022c75e6394b484250283935ee682e53672a95e96ad71c0324a69d4", func := "loop.example/tallyaudit/laws.FnPairBest", spec := "fnPairBest", inPlace := ["internal/bytealg.abigen_runtime_cmpstring"], unfollowed := true, recurses := true, apart := false, narrowed := true }
def FnPairBestUptoSaid : Prop := fnPairBestUptoRow.holds Try.pinned (OpenSpec.upto fnPairBestSpec)

/-- 'laws.FnPairBestPaths', WHERE WHAT IT READS IS OF BULK AT MOST 1048576: true; the input reads as it did. -/
def fnPairBestPathsUptoRow : OpenClaim := { program := "ytaaamidkfhabnaa", sum := "886eead01022c75e6394b484250283935ee682e53672a95e96ad71c0324a69d4", func := "loop.example/tallyaudit/laws.FnPairBestPaths", spec := "fnPairBestPaths", inPlace := ["internal/bytealg.abigen_runtime_cmpstring"], unfollowed := true, recurses := true, apart := false, narrowed := true }
def FnPairBestPathsUptoSaid : Prop := fnPairBestPathsUptoRow.holds Try.pinned (OpenSpec.upto fnPairBestPathsSpec)

/-- 'laws.FnPairTurned', WHERE WHAT IT READS IS OF BULK AT MOST 1048576: true; the input reads as it did. -/
def fnPairTurnedUptoRow : OpenClaim := { program := "ytaaamidkfhabnaa", sum := "886eead01022c75e6394b484250283935ee682e53672a95e96ad71c0324a69d4", func := "loop.example/tallyaudit/laws.FnPairTurned", spec := "fnPairTurned", inPlace := ["internal/bytealg.abigen_runtime_cmpstring"], unfollowed := true, recurses := true, apart := false, narrowed := true }
def FnPairTurnedUptoSaid : Prop := fnPairTurnedUptoRow.holds Try.pinned (OpenSpec.upto fnPairTurnedSpec)

/-- 'laws.FnExactPairCounts', WHERE WHAT IT READS IS OF BULK AT MOST 1048576: true; the input reads as it did. -/
def fnExactPairCountsUptoRow : OpenClaim := { program := "ytaaamidkfhabnaa", sum := "886eead01022c75e6394b484250283935ee682e53672a95e96ad71c0324a69d4", func := "loop.example/tallyaudit/laws.FnExactPairCounts", spec := "fnExactPairCounts", inPlace := ["internal/bytealg.abigen_runtime_cmpstring"], unfollowed := true, recurses := true, apart := false, narrowed := true }
def FnExactPairCountsUptoSaid : Prop := fnExactPairCountsUptoRow.holds Try.pinned (OpenSpec.upto fnExactPairCountsSpec)

end Rows
end Go.Proofs.Ytaaamidkfhabnaa
