/-
  No cell of these rows narrows 'for every input' (looked for: loops, veiled, ifaces, maps, wideKeys, modest, calm, conditions, laid).
  DERIVED. THE GIVEN ROWS OF THIS SEAT. 10 by the template 'for every input the law returns true; each argument reads behind the call as it read before'; 0 by the template 'total and deterministic' (their statements: YtafnmongglhlaaaTotals.lean).
  GIVEN WITH THE SEED: the statements are not yours to turn. If you find one false, say at which input.
  Laid BY PROGRAM, IN A SANDBOX (cutbox-rows.mjs): the forced cells as the released guide's own fill.sh prints them over the translation 2d4aa42978f15ee6… (all of the seat's roots in one cut). By AI agents, Wed Nov 11 2026. No macro, syntax, notation, axiom, sorry.
-/
import Derived.Test.YtafnmongglhlaaaChecked
import GoSem.Claim
import GoSem.ClaimJoined
import GoSem.ClaimMapViews
import Derived.JoinedTies
import Derived.KernelRfl
namespace Go.Proofs.Ytafnmongglhlaaa
/- THE CELL 'sum', in the pinned program and in every row, IS THE sha256 OF THE DUMP (.gsa) THAT YtafnmongglhlaaaProg.lean LOADS. Nothing in Lean hashes anything: it is a label: what it is worth is what the hold of that sum in a sandbox is worth. -/
noncomputable def Try.pinned : Pinned := { name := "ytafnmongglhlaaa", sum := "2d4aa42978f15ee6cedf341137ae66c9fb5f6c2a666ab4e5f94df88e1511a520", checked := Try.checked }
namespace Rows
def none {H : Type} : Left H := { results := [], args := [] }

/-- 'laws.FnTransfer': WHATEVER THE INPUT: true; the input reads as it did. -/
def fnTransferSpec : ChangeSpec := { name := "fnTransfer", fn := fun _ => fun
  | [d] => { results := [.lit (.bool true)], args := [d] }
  | _ => none }
def fnTransferRow : OpenClaim := { program := "ytafnmongglhlaaa", sum := "2d4aa42978f15ee6cedf341137ae66c9fb5f6c2a666ab4e5f94df88e1511a520", func := "loop.example/tallyaudit/laws.FnTransfer", spec := "fnTransfer", inPlace := ["internal/bytealg.abigen_runtime_cmpstring"], unfollowed := true, recurses := true, apart := false }
def FnTransferSaid : Prop := fnTransferRow.holds Try.pinned (OpenSpec.ofChange fnTransferSpec)

/-- ITS FALSE NEIGHBOUR: 'it returns false'. Refute it at one input. -/
def fnTransferWrong : ChangeSpec := { name := "fnTransfer", fn := fun _ => fun
  | [d] => { results := [.lit (.bool false)], args := [d] }
  | _ => none }
def FnTransferWrongFalsely : Prop := fnTransferRow.holds Try.pinned (OpenSpec.ofChange fnTransferWrong)

/-- 'laws.FnTransferSum': WHATEVER THE INPUT: true; the input reads as it did. -/
def fnTransferSumSpec : ChangeSpec := { name := "fnTransferSum", fn := fun _ => fun
  | [d] => { results := [.lit (.bool true)], args := [d] }
  | _ => none }
def fnTransferSumRow : OpenClaim := { program := "ytafnmongglhlaaa", sum := "2d4aa42978f15ee6cedf341137ae66c9fb5f6c2a666ab4e5f94df88e1511a520", func := "loop.example/tallyaudit/laws.FnTransferSum", spec := "fnTransferSum", inPlace := ["internal/bytealg.abigen_runtime_cmpstring"], unfollowed := true, recurses := true, apart := false }
def FnTransferSumSaid : Prop := fnTransferSumRow.holds Try.pinned (OpenSpec.ofChange fnTransferSumSpec)

/-- ITS FALSE NEIGHBOUR: 'it returns false'. Refute it at one input. -/
def fnTransferSumWrong : ChangeSpec := { name := "fnTransferSum", fn := fun _ => fun
  | [d] => { results := [.lit (.bool false)], args := [d] }
  | _ => none }
def FnTransferSumWrongFalsely : Prop := fnTransferSumRow.holds Try.pinned (OpenSpec.ofChange fnTransferSumWrong)

/-- 'laws.FnTransferIn': WHATEVER THE INPUT: true; the input reads as it did. -/
def fnTransferInSpec : ChangeSpec := { name := "fnTransferIn", fn := fun _ => fun
  | [d] => { results := [.lit (.bool true)], args := [d] }
  | _ => none }
def fnTransferInRow : OpenClaim := { program := "ytafnmongglhlaaa", sum := "2d4aa42978f15ee6cedf341137ae66c9fb5f6c2a666ab4e5f94df88e1511a520", func := "loop.example/tallyaudit/laws.FnTransferIn", spec := "fnTransferIn", inPlace := ["internal/bytealg.abigen_runtime_cmpstring"], unfollowed := true, recurses := true, apart := false }
def FnTransferInSaid : Prop := fnTransferInRow.holds Try.pinned (OpenSpec.ofChange fnTransferInSpec)

/-- ITS FALSE NEIGHBOUR: 'it returns false'. Refute it at one input. -/
def fnTransferInWrong : ChangeSpec := { name := "fnTransferIn", fn := fun _ => fun
  | [d] => { results := [.lit (.bool false)], args := [d] }
  | _ => none }
def FnTransferInWrongFalsely : Prop := fnTransferInRow.holds Try.pinned (OpenSpec.ofChange fnTransferInWrong)

/-- 'laws.FnTransferOut': WHATEVER THE INPUT: true; the input reads as it did. -/
def fnTransferOutSpec : ChangeSpec := { name := "fnTransferOut", fn := fun _ => fun
  | [d] => { results := [.lit (.bool true)], args := [d] }
  | _ => none }
def fnTransferOutRow : OpenClaim := { program := "ytafnmongglhlaaa", sum := "2d4aa42978f15ee6cedf341137ae66c9fb5f6c2a666ab4e5f94df88e1511a520", func := "loop.example/tallyaudit/laws.FnTransferOut", spec := "fnTransferOut", inPlace := ["internal/bytealg.abigen_runtime_cmpstring"], unfollowed := true, recurses := true, apart := false }
def FnTransferOutSaid : Prop := fnTransferOutRow.holds Try.pinned (OpenSpec.ofChange fnTransferOutSpec)

/-- ITS FALSE NEIGHBOUR: 'it returns false'. Refute it at one input. -/
def fnTransferOutWrong : ChangeSpec := { name := "fnTransferOut", fn := fun _ => fun
  | [d] => { results := [.lit (.bool false)], args := [d] }
  | _ => none }
def FnTransferOutWrongFalsely : Prop := fnTransferOutRow.holds Try.pinned (OpenSpec.ofChange fnTransferOutWrong)

/-- 'laws.FnTransferRest': WHATEVER THE INPUT: true; the input reads as it did. -/
def fnTransferRestSpec : ChangeSpec := { name := "fnTransferRest", fn := fun _ => fun
  | [d] => { results := [.lit (.bool true)], args := [d] }
  | _ => none }
def fnTransferRestRow : OpenClaim := { program := "ytafnmongglhlaaa", sum := "2d4aa42978f15ee6cedf341137ae66c9fb5f6c2a666ab4e5f94df88e1511a520", func := "loop.example/tallyaudit/laws.FnTransferRest", spec := "fnTransferRest", inPlace := ["internal/bytealg.abigen_runtime_cmpstring"], unfollowed := true, recurses := true, apart := false }
def FnTransferRestSaid : Prop := fnTransferRestRow.holds Try.pinned (OpenSpec.ofChange fnTransferRestSpec)

/-- ITS FALSE NEIGHBOUR: 'it returns false'. Refute it at one input. -/
def fnTransferRestWrong : ChangeSpec := { name := "fnTransferRest", fn := fun _ => fun
  | [d] => { results := [.lit (.bool false)], args := [d] }
  | _ => none }
def FnTransferRestWrongFalsely : Prop := fnTransferRestRow.holds Try.pinned (OpenSpec.ofChange fnTransferRestWrong)

/-- 'laws.FnTransferSolid': WHATEVER THE INPUT: true; the input reads as it did. -/
def fnTransferSolidSpec : ChangeSpec := { name := "fnTransferSolid", fn := fun _ => fun
  | [d] => { results := [.lit (.bool true)], args := [d] }
  | _ => none }
def fnTransferSolidRow : OpenClaim := { program := "ytafnmongglhlaaa", sum := "2d4aa42978f15ee6cedf341137ae66c9fb5f6c2a666ab4e5f94df88e1511a520", func := "loop.example/tallyaudit/laws.FnTransferSolid", spec := "fnTransferSolid", inPlace := ["internal/bytealg.abigen_runtime_cmpstring"], unfollowed := true, recurses := true, apart := false }
def FnTransferSolidSaid : Prop := fnTransferSolidRow.holds Try.pinned (OpenSpec.ofChange fnTransferSolidSpec)

/-- ITS FALSE NEIGHBOUR: 'it returns false'. Refute it at one input. -/
def fnTransferSolidWrong : ChangeSpec := { name := "fnTransferSolid", fn := fun _ => fun
  | [d] => { results := [.lit (.bool false)], args := [d] }
  | _ => none }
def FnTransferSolidWrongFalsely : Prop := fnTransferSolidRow.holds Try.pinned (OpenSpec.ofChange fnTransferSolidWrong)

/-- 'laws.FnTransferCheck': WHATEVER THE INPUT: true; the input reads as it did. -/
def fnTransferCheckSpec : ChangeSpec := { name := "fnTransferCheck", fn := fun _ => fun
  | [d] => { results := [.lit (.bool true)], args := [d] }
  | _ => none }
def fnTransferCheckRow : OpenClaim := { program := "ytafnmongglhlaaa", sum := "2d4aa42978f15ee6cedf341137ae66c9fb5f6c2a666ab4e5f94df88e1511a520", func := "loop.example/tallyaudit/laws.FnTransferCheck", spec := "fnTransferCheck", inPlace := ["internal/bytealg.abigen_runtime_cmpstring"], unfollowed := true, recurses := true, apart := false }
def FnTransferCheckSaid : Prop := fnTransferCheckRow.holds Try.pinned (OpenSpec.ofChange fnTransferCheckSpec)

/-- ITS FALSE NEIGHBOUR: 'it returns false'. Refute it at one input. -/
def fnTransferCheckWrong : ChangeSpec := { name := "fnTransferCheck", fn := fun _ => fun
  | [d] => { results := [.lit (.bool false)], args := [d] }
  | _ => none }
def FnTransferCheckWrongFalsely : Prop := fnTransferCheckRow.holds Try.pinned (OpenSpec.ofChange fnTransferCheckWrong)

/-- 'laws.FnExactTransferCheck': WHATEVER THE INPUT: true; the input reads as it did. -/
def fnExactTransferCheckSpec : ChangeSpec := { name := "fnExactTransferCheck", fn := fun _ => fun
  | [d1, d2, d3, d4] => { results := [.lit (.bool true)], args := [d1, d2, d3, d4] }
  | _ => none }
def fnExactTransferCheckRow : OpenClaim := { program := "ytafnmongglhlaaa", sum := "2d4aa42978f15ee6cedf341137ae66c9fb5f6c2a666ab4e5f94df88e1511a520", func := "loop.example/tallyaudit/laws.FnExactTransferCheck", spec := "fnExactTransferCheck", inPlace := ["internal/bytealg.abigen_runtime_cmpstring"], unfollowed := true, recurses := true, apart := false }
def FnExactTransferCheckSaid : Prop := fnExactTransferCheckRow.holds Try.pinned (OpenSpec.ofChange fnExactTransferCheckSpec)

/-- ITS FALSE NEIGHBOUR: 'it returns false'. Refute it at one input. -/
def fnExactTransferCheckWrong : ChangeSpec := { name := "fnExactTransferCheck", fn := fun _ => fun
  | [d1, d2, d3, d4] => { results := [.lit (.bool false)], args := [d1, d2, d3, d4] }
  | _ => none }
def FnExactTransferCheckWrongFalsely : Prop := fnExactTransferCheckRow.holds Try.pinned (OpenSpec.ofChange fnExactTransferCheckWrong)

/-- 'laws.FnExactTransferWinners': WHATEVER THE INPUT: true; the input reads as it did. -/
def fnExactTransferWinnersSpec : ChangeSpec := { name := "fnExactTransferWinners", fn := fun _ => fun
  | [d1, d2, d3] => { results := [.lit (.bool true)], args := [d1, d2, d3] }
  | _ => none }
def fnExactTransferWinnersRow : OpenClaim := { program := "ytafnmongglhlaaa", sum := "2d4aa42978f15ee6cedf341137ae66c9fb5f6c2a666ab4e5f94df88e1511a520", func := "loop.example/tallyaudit/laws.FnExactTransferWinners", spec := "fnExactTransferWinners", inPlace := ["internal/bytealg.abigen_runtime_cmpstring"], unfollowed := true, recurses := true, apart := false }
def FnExactTransferWinnersSaid : Prop := fnExactTransferWinnersRow.holds Try.pinned (OpenSpec.ofChange fnExactTransferWinnersSpec)

/-- ITS FALSE NEIGHBOUR: 'it returns false'. Refute it at one input. -/
def fnExactTransferWinnersWrong : ChangeSpec := { name := "fnExactTransferWinners", fn := fun _ => fun
  | [d1, d2, d3] => { results := [.lit (.bool false)], args := [d1, d2, d3] }
  | _ => none }
def FnExactTransferWinnersWrongFalsely : Prop := fnExactTransferWinnersRow.holds Try.pinned (OpenSpec.ofChange fnExactTransferWinnersWrong)

/-- 'laws.FnExactTransferSteps': WHATEVER THE INPUT: true; the input reads as it did. -/
def fnExactTransferStepsSpec : ChangeSpec := { name := "fnExactTransferSteps", fn := fun _ => fun
  | [d1, d2, d3] => { results := [.lit (.bool true)], args := [d1, d2, d3] }
  | _ => none }
def fnExactTransferStepsRow : OpenClaim := { program := "ytafnmongglhlaaa", sum := "2d4aa42978f15ee6cedf341137ae66c9fb5f6c2a666ab4e5f94df88e1511a520", func := "loop.example/tallyaudit/laws.FnExactTransferSteps", spec := "fnExactTransferSteps", inPlace := ["internal/bytealg.abigen_runtime_cmpstring"], unfollowed := true, recurses := true, apart := false }
def FnExactTransferStepsSaid : Prop := fnExactTransferStepsRow.holds Try.pinned (OpenSpec.ofChange fnExactTransferStepsSpec)

/-- ITS FALSE NEIGHBOUR: 'it returns false'. Refute it at one input. -/
def fnExactTransferStepsWrong : ChangeSpec := { name := "fnExactTransferSteps", fn := fun _ => fun
  | [d1, d2, d3] => { results := [.lit (.bool false)], args := [d1, d2, d3] }
  | _ => none }
def FnExactTransferStepsWrongFalsely : Prop := fnExactTransferStepsRow.holds Try.pinned (OpenSpec.ofChange fnExactTransferStepsWrong)

/- THE SECOND FORM. 'bulk': how many values and letters a reading holds, each counted each time it is reached (what is shared counts as often as it is met; a slice's spare places count too). A statement '..UptoSaid' is the law's where the arguments, and the package variables that the reading takes, are together of bulk at most 1048576: NARROWER than '..Said'. Prove '..Said' where nothing that the law and all that it calls make is longer than what came in: it says more and counts as full. Else prove '..UptoSaid'. A law counts once. -/
mutual
def uptoBulk {H : Type} : DataW H → Nat
  | .lit (.string bytes) => bytes.length + 1
  | .lit _ => 1
  | .nil => 1
  | .ptr d => uptoBulk d + 1
  | .slice elems spare => uptoBulkAll elems + uptoBulkAll spare + 1
  | .agg parts => uptoBulkAll parts + 1
  | .iface _ d => uptoBulk d + 1
  | .map entries => uptoBulkEntries entries + 1
  | .held _ => 1
def uptoBulkAll {H : Type} : List (DataW H) → Nat
  | [] => 0
  | d :: r => uptoBulk d + uptoBulkAll r
def uptoBulkEntries {H : Type} : List (Lit × DataW H) → Nat
  | [] => 0
  | x :: r => uptoBulkEntry x + uptoBulkEntries r
def uptoBulkEntry {H : Type} : Lit × DataW H → Nat
  | (.string bytes, d) => bytes.length + uptoBulk d + 1
  | (_, d) => uptoBulk d + 1
 end
def uptoSmall : (H : Type) → List (DataW H) → Bool := fun _ ds => decide (uptoBulkAll ds ≤ 1048576)
def OpenSpec.upto (s : _root_.Go.ChangeSpec) : _root_.Go.OpenSpec := { _root_.Go.OpenSpec.ofChange s with cond := some uptoSmall }

/-- 'laws.FnTransfer', WHERE WHAT IT READS IS OF BULK AT MOST 1048576: true; the input reads as it did. -/
def fnTransferUptoRow : OpenClaim := { program := "ytafnmongglhlaaa", sum := "2d4aa42978f15ee6cedf341137ae66c9fb5f6c2a666ab4e5f94df88e1511a520", func := "loop.example/tallyaudit/laws.FnTransfer", spec := "fnTransfer", inPlace := ["internal/bytealg.abigen_runtime_cmpstring"], unfollowed := true, recurses := true, apart := false, narrowed := true }
def FnTransferUptoSaid : Prop := fnTransferUptoRow.holds Try.pinned (OpenSpec.upto fnTransferSpec)

/-- 'laws.FnTransferSum', WHERE WHAT IT READS IS OF BULK AT MOST 1048576: true; the input reads as it did. -/
def fnTransferSumUptoRow : OpenClaim := { program := "ytafnmongglhlaaa", sum := "2d4aa42978f15ee6cedf341137ae66c9fb5f6c2a666ab4e5f94df88e1511a520", func := "loop.example/tallyaudit/laws.FnTransferSum", spec := "fnTransferSum", inPlace := ["internal/bytealg.abigen_runtime_cmpstring"], unfollowed := true, recurses := true, apart := false, narrowed := true }
def FnTransferSumUptoSaid : Prop := fnTransferSumUptoRow.holds Try.pinned (OpenSpec.upto fnTransferSumSpec)

/-- 'laws.FnTransferIn', WHERE WHAT IT READS IS OF BULK AT MOST 1048576: true; the input reads as it did. -/
def fnTransferInUptoRow : OpenClaim := { program := "ytafnmongglhlaaa", sum := "2d4aa42978f15ee6cedf341137ae66c9fb5f6c2a666ab4e5f94df88e1511a520", func := "loop.example/tallyaudit/laws.FnTransferIn", spec := "fnTransferIn", inPlace := ["internal/bytealg.abigen_runtime_cmpstring"], unfollowed := true, recurses := true, apart := false, narrowed := true }
def FnTransferInUptoSaid : Prop := fnTransferInUptoRow.holds Try.pinned (OpenSpec.upto fnTransferInSpec)

/-- 'laws.FnTransferOut', WHERE WHAT IT READS IS OF BULK AT MOST 1048576: true; the input reads as it did. -/
def fnTransferOutUptoRow : OpenClaim := { program := "ytafnmongglhlaaa", sum := "2d4aa42978f15ee6cedf341137ae66c9fb5f6c2a666ab4e5f94df88e1511a520", func := "loop.example/tallyaudit/laws.FnTransferOut", spec := "fnTransferOut", inPlace := ["internal/bytealg.abigen_runtime_cmpstring"], unfollowed := true, recurses := true, apart := false, narrowed := true }
def FnTransferOutUptoSaid : Prop := fnTransferOutUptoRow.holds Try.pinned (OpenSpec.upto fnTransferOutSpec)

/-- 'laws.FnTransferRest', WHERE WHAT IT READS IS OF BULK AT MOST 1048576: true; the input reads as it did. -/
def fnTransferRestUptoRow : OpenClaim := { program := "ytafnmongglhlaaa", sum := "2d4aa42978f15ee6cedf341137ae66c9fb5f6c2a666ab4e5f94df88e1511a520", func := "loop.example/tallyaudit/laws.FnTransferRest", spec := "fnTransferRest", inPlace := ["internal/bytealg.abigen_runtime_cmpstring"], unfollowed := true, recurses := true, apart := false, narrowed := true }
def FnTransferRestUptoSaid : Prop := fnTransferRestUptoRow.holds Try.pinned (OpenSpec.upto fnTransferRestSpec)

/-- 'laws.FnTransferSolid', WHERE WHAT IT READS IS OF BULK AT MOST 1048576: true; the input reads as it did. -/
def fnTransferSolidUptoRow : OpenClaim := { program := "ytafnmongglhlaaa", sum := "2d4aa42978f15ee6cedf341137ae66c9fb5f6c2a666ab4e5f94df88e1511a520", func := "loop.example/tallyaudit/laws.FnTransferSolid", spec := "fnTransferSolid", inPlace := ["internal/bytealg.abigen_runtime_cmpstring"], unfollowed := true, recurses := true, apart := false, narrowed := true }
def FnTransferSolidUptoSaid : Prop := fnTransferSolidUptoRow.holds Try.pinned (OpenSpec.upto fnTransferSolidSpec)

/-- 'laws.FnTransferCheck', WHERE WHAT IT READS IS OF BULK AT MOST 1048576: true; the input reads as it did. -/
def fnTransferCheckUptoRow : OpenClaim := { program := "ytafnmongglhlaaa", sum := "2d4aa42978f15ee6cedf341137ae66c9fb5f6c2a666ab4e5f94df88e1511a520", func := "loop.example/tallyaudit/laws.FnTransferCheck", spec := "fnTransferCheck", inPlace := ["internal/bytealg.abigen_runtime_cmpstring"], unfollowed := true, recurses := true, apart := false, narrowed := true }
def FnTransferCheckUptoSaid : Prop := fnTransferCheckUptoRow.holds Try.pinned (OpenSpec.upto fnTransferCheckSpec)

/-- 'laws.FnExactTransferCheck', WHERE WHAT IT READS IS OF BULK AT MOST 1048576: true; the input reads as it did. -/
def fnExactTransferCheckUptoRow : OpenClaim := { program := "ytafnmongglhlaaa", sum := "2d4aa42978f15ee6cedf341137ae66c9fb5f6c2a666ab4e5f94df88e1511a520", func := "loop.example/tallyaudit/laws.FnExactTransferCheck", spec := "fnExactTransferCheck", inPlace := ["internal/bytealg.abigen_runtime_cmpstring"], unfollowed := true, recurses := true, apart := false, narrowed := true }
def FnExactTransferCheckUptoSaid : Prop := fnExactTransferCheckUptoRow.holds Try.pinned (OpenSpec.upto fnExactTransferCheckSpec)

/-- 'laws.FnExactTransferWinners', WHERE WHAT IT READS IS OF BULK AT MOST 1048576: true; the input reads as it did. -/
def fnExactTransferWinnersUptoRow : OpenClaim := { program := "ytafnmongglhlaaa", sum := "2d4aa42978f15ee6cedf341137ae66c9fb5f6c2a666ab4e5f94df88e1511a520", func := "loop.example/tallyaudit/laws.FnExactTransferWinners", spec := "fnExactTransferWinners", inPlace := ["internal/bytealg.abigen_runtime_cmpstring"], unfollowed := true, recurses := true, apart := false, narrowed := true }
def FnExactTransferWinnersUptoSaid : Prop := fnExactTransferWinnersUptoRow.holds Try.pinned (OpenSpec.upto fnExactTransferWinnersSpec)

/-- 'laws.FnExactTransferSteps', WHERE WHAT IT READS IS OF BULK AT MOST 1048576: true; the input reads as it did. -/
def fnExactTransferStepsUptoRow : OpenClaim := { program := "ytafnmongglhlaaa", sum := "2d4aa42978f15ee6cedf341137ae66c9fb5f6c2a666ab4e5f94df88e1511a520", func := "loop.example/tallyaudit/laws.FnExactTransferSteps", spec := "fnExactTransferSteps", inPlace := ["internal/bytealg.abigen_runtime_cmpstring"], unfollowed := true, recurses := true, apart := false, narrowed := true }
def FnExactTransferStepsUptoSaid : Prop := fnExactTransferStepsUptoRow.holds Try.pinned (OpenSpec.upto fnExactTransferStepsSpec)

end Rows
end Go.Proofs.Ytafnmongglhlaaa
