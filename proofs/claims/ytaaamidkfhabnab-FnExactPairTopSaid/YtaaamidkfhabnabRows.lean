/-
  No cell of these rows narrows 'for every input' (looked for: loops, veiled, ifaces, maps, wideKeys, modest, calm, conditions, laid).
  DERIVED. THE GIVEN ROWS OF THIS SEAT. 4 by the template 'for every input the law returns true; each argument reads behind the call as it read before'; 0 by the template 'total and deterministic' (their statements: YtaaamidkfhabnabTotals.lean).
  GIVEN WITH THE SEED: the statements are not yours to turn. If you find one false, say at which input.
  Laid BY PROGRAM, IN A SANDBOX (cutbox-rows.mjs): the forced cells as the released guide's own fill.sh prints them over the translation 6819320fda8cad2e… (all of the seat's roots in one cut). By AI agents, Wed Nov 11 2026. No macro, syntax, notation, axiom, sorry.
-/
import Derived.Test.YtaaamidkfhabnabChecked
import GoSem.Claim
import GoSem.ClaimJoined
import GoSem.ClaimMapViews
import Derived.JoinedTies
import Derived.KernelRfl
namespace Go.Proofs.Ytaaamidkfhabnab
/- THE CELL 'sum', in the pinned program and in every row, IS THE sha256 OF THE DUMP (.gsa) THAT YtaaamidkfhabnabProg.lean LOADS. Nothing in Lean hashes anything: it is a label: what it is worth is what the hold of that sum in a sandbox is worth. -/
noncomputable def Try.pinned : Pinned := { name := "ytaaamidkfhabnab", sum := "6819320fda8cad2ec9ee2289285ca28b7dc9e4075502ad9fa7abe9c2f61a2105", checked := Try.checked }
namespace Rows
def none {H : Type} : Left H := { results := [], args := [] }

/-- 'laws.FnExactPairWinner': WHATEVER THE INPUT: true; the input reads as it did. -/
def fnExactPairWinnerSpec : ChangeSpec := { name := "fnExactPairWinner", fn := fun _ => fun
  | [d1, d2] => { results := [.lit (.bool true)], args := [d1, d2] }
  | _ => none }
def fnExactPairWinnerRow : OpenClaim := { program := "ytaaamidkfhabnab", sum := "6819320fda8cad2ec9ee2289285ca28b7dc9e4075502ad9fa7abe9c2f61a2105", func := "loop.example/tallyaudit/laws.FnExactPairWinner", spec := "fnExactPairWinner", inPlace := ["internal/bytealg.abigen_runtime_cmpstring"], unfollowed := true, recurses := true, apart := false }
def FnExactPairWinnerSaid : Prop := fnExactPairWinnerRow.holds Try.pinned (OpenSpec.ofChange fnExactPairWinnerSpec)

/-- ITS FALSE NEIGHBOUR: 'it returns false'. Refute it at one input. -/
def fnExactPairWinnerWrong : ChangeSpec := { name := "fnExactPairWinner", fn := fun _ => fun
  | [d1, d2] => { results := [.lit (.bool false)], args := [d1, d2] }
  | _ => none }
def FnExactPairWinnerWrongFalsely : Prop := fnExactPairWinnerRow.holds Try.pinned (OpenSpec.ofChange fnExactPairWinnerWrong)

/-- 'laws.FnExactPairTop': WHATEVER THE INPUT: true; the input reads as it did. -/
def fnExactPairTopSpec : ChangeSpec := { name := "fnExactPairTop", fn := fun _ => fun
  | [d1, d2] => { results := [.lit (.bool true)], args := [d1, d2] }
  | _ => none }
def fnExactPairTopRow : OpenClaim := { program := "ytaaamidkfhabnab", sum := "6819320fda8cad2ec9ee2289285ca28b7dc9e4075502ad9fa7abe9c2f61a2105", func := "loop.example/tallyaudit/laws.FnExactPairTop", spec := "fnExactPairTop", inPlace := ["internal/bytealg.abigen_runtime_cmpstring"], unfollowed := true, recurses := true, apart := false }
def FnExactPairTopSaid : Prop := fnExactPairTopRow.holds Try.pinned (OpenSpec.ofChange fnExactPairTopSpec)

/-- ITS FALSE NEIGHBOUR: 'it returns false'. Refute it at one input. -/
def fnExactPairTopWrong : ChangeSpec := { name := "fnExactPairTop", fn := fun _ => fun
  | [d1, d2] => { results := [.lit (.bool false)], args := [d1, d2] }
  | _ => none }
def FnExactPairTopWrongFalsely : Prop := fnExactPairTopRow.holds Try.pinned (OpenSpec.ofChange fnExactPairTopWrong)

/-- 'laws.FnExactPairPaths': WHATEVER THE INPUT: true; the input reads as it did. -/
def fnExactPairPathsSpec : ChangeSpec := { name := "fnExactPairPaths", fn := fun _ => fun
  | [d1, d2] => { results := [.lit (.bool true)], args := [d1, d2] }
  | _ => none }
def fnExactPairPathsRow : OpenClaim := { program := "ytaaamidkfhabnab", sum := "6819320fda8cad2ec9ee2289285ca28b7dc9e4075502ad9fa7abe9c2f61a2105", func := "loop.example/tallyaudit/laws.FnExactPairPaths", spec := "fnExactPairPaths", inPlace := ["internal/bytealg.abigen_runtime_cmpstring"], unfollowed := true, recurses := true, apart := false }
def FnExactPairPathsSaid : Prop := fnExactPairPathsRow.holds Try.pinned (OpenSpec.ofChange fnExactPairPathsSpec)

/-- ITS FALSE NEIGHBOUR: 'it returns false'. Refute it at one input. -/
def fnExactPairPathsWrong : ChangeSpec := { name := "fnExactPairPaths", fn := fun _ => fun
  | [d1, d2] => { results := [.lit (.bool false)], args := [d1, d2] }
  | _ => none }
def FnExactPairPathsWrongFalsely : Prop := fnExactPairPathsRow.holds Try.pinned (OpenSpec.ofChange fnExactPairPathsWrong)

/-- 'laws.FnExactPairBest': WHATEVER THE INPUT: true; the input reads as it did. -/
def fnExactPairBestSpec : ChangeSpec := { name := "fnExactPairBest", fn := fun _ => fun
  | [d1, d2] => { results := [.lit (.bool true)], args := [d1, d2] }
  | _ => none }
def fnExactPairBestRow : OpenClaim := { program := "ytaaamidkfhabnab", sum := "6819320fda8cad2ec9ee2289285ca28b7dc9e4075502ad9fa7abe9c2f61a2105", func := "loop.example/tallyaudit/laws.FnExactPairBest", spec := "fnExactPairBest", inPlace := ["internal/bytealg.abigen_runtime_cmpstring"], unfollowed := true, recurses := true, apart := false }
def FnExactPairBestSaid : Prop := fnExactPairBestRow.holds Try.pinned (OpenSpec.ofChange fnExactPairBestSpec)

/-- ITS FALSE NEIGHBOUR: 'it returns false'. Refute it at one input. -/
def fnExactPairBestWrong : ChangeSpec := { name := "fnExactPairBest", fn := fun _ => fun
  | [d1, d2] => { results := [.lit (.bool false)], args := [d1, d2] }
  | _ => none }
def FnExactPairBestWrongFalsely : Prop := fnExactPairBestRow.holds Try.pinned (OpenSpec.ofChange fnExactPairBestWrong)

/- THE SECOND FORM. 'bulk': how many values and letters a reading holds, each counted each time it is reached (what is shared counts as often as it is met; a slice's spare places count too). A statement '..UptoSaid' is the law's where the arguments, and the package variables that the reading takes, are together of bulk at most 1048576: NARROWER than '..Said'. Prove '..Said' where nothing that the law and all that it calls make is longer than what came in: it says more and counts as full. Else prove '..UptoSaid'. A law counts once. -/
mutual
def uptoBulk {H : Type} : DataW H → Nat
  | .lit (.string bytes) => bytes.length + 1
  | .lit _ => 1
  | .nil => 1
  | .ptr d => uptoBulk d + 1
  | .slice elems spare => uptoBulkAll elems + uptoBulkAll spare + 1
  | .agg parts => uptoBulkAll parts + 1
  | .iface _ d => uptoBulk d + 1
  | .map entries => uptoBulkEntries entries + 1
  | .held _ => 1
def uptoBulkAll {H : Type} : List (DataW H) → Nat
  | [] => 0
  | d :: r => uptoBulk d + uptoBulkAll r
def uptoBulkEntries {H : Type} : List (Lit × DataW H) → Nat
  | [] => 0
  | x :: r => uptoBulkEntry x + uptoBulkEntries r
def uptoBulkEntry {H : Type} : Lit × DataW H → Nat
  | (.string bytes, d) => bytes.length + uptoBulk d + 1
  | (_, d) => uptoBulk d + 1
 end
def uptoSmall : (H : Type) → List (DataW H) → Bool := fun _ ds => decide (uptoBulkAll ds ≤ 1048576)
def OpenSpec.upto (s : _root_.Go.ChangeSpec) : _root_.Go.OpenSpec := { _root_.Go.OpenSpec.ofChange s with cond := some uptoSmall }

/-- 'laws.FnExactPairWinner', WHERE WHAT IT READS IS OF BULK AT MOST 1048576: true; the input reads as it did. -/
def fnExactPairWinnerUptoRow : OpenClaim := { program := "ytaaamidkfhabnab", sum := "6819320fda8cad2ec9ee2289285ca28b7dc9e4075502ad9fa7abe9c2f61a2105", func := "loop.example/tallyaudit/laws.FnExactPairWinner", spec := "fnExactPairWinner", inPlace := ["internal/bytealg.abigen_runtime_cmpstring"], unfollowed := true, recurses := true, apart := false, narrowed := true }
def FnExactPairWinnerUptoSaid : Prop := fnExactPairWinnerUptoRow.holds Try.pinned (OpenSpec.upto fnExactPairWinnerSpec)

/-- 'laws.FnExactPairTop', WHERE WHAT IT READS IS OF BULK AT MOST 1048576: true; the input reads as it did. -/
def fnExactPairTopUptoRow : OpenClaim := { program := "ytaaamidkfhabnab", sum := "6819320fda8cad2ec9ee2289285ca28b7dc9e4075502ad9fa7abe9c2f61a2105", func := "loop.example/tallyaudit/laws.FnExactPairTop", spec := "fnExactPairTop", inPlace := ["internal/bytealg.abigen_runtime_cmpstring"], unfollowed := true, recurses := true, apart := false, narrowed := true }
def FnExactPairTopUptoSaid : Prop := fnExactPairTopUptoRow.holds Try.pinned (OpenSpec.upto fnExactPairTopSpec)

/-- 'laws.FnExactPairPaths', WHERE WHAT IT READS IS OF BULK AT MOST 1048576: true; the input reads as it did. -/
def fnExactPairPathsUptoRow : OpenClaim := { program := "ytaaamidkfhabnab", sum := "6819320fda8cad2ec9ee2289285ca28b7dc9e4075502ad9fa7abe9c2f61a2105", func := "loop.example/tallyaudit/laws.FnExactPairPaths", spec := "fnExactPairPaths", inPlace := ["internal/bytealg.abigen_runtime_cmpstring"], unfollowed := true, recurses := true, apart := false, narrowed := true }
def FnExactPairPathsUptoSaid : Prop := fnExactPairPathsUptoRow.holds Try.pinned (OpenSpec.upto fnExactPairPathsSpec)

/-- 'laws.FnExactPairBest', WHERE WHAT IT READS IS OF BULK AT MOST 1048576: true; the input reads as it did. -/
def fnExactPairBestUptoRow : OpenClaim := { program := "ytaaamidkfhabnab", sum := "6819320fda8cad2ec9ee2289285ca28b7dc9e4075502ad9fa7abe9c2f61a2105", func := "loop.example/tallyaudit/laws.FnExactPairBest", spec := "fnExactPairBest", inPlace := ["internal/bytealg.abigen_runtime_cmpstring"], unfollowed := true, recurses := true, apart := false, narrowed := true }
def FnExactPairBestUptoSaid : Prop := fnExactPairBestUptoRow.holds Try.pinned (OpenSpec.upto fnExactPairBestSpec)

end Rows
end Go.Proofs.Ytaaamidkfhabnab
