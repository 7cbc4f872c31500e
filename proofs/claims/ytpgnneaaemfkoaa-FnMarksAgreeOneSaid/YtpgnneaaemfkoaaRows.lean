/-
  No cell of these rows narrows 'for every input' (looked for: loops, veiled, ifaces, maps, wideKeys, modest, calm, conditions, laid).
  DERIVED. THE GIVEN ROWS OF THIS SEAT. 5 by the template 'for every input the law returns true; each argument reads behind the call as it read before'; 0 by the template 'total and deterministic' (their statements: YtpgnneaaemfkoaaTotals.lean).
  GIVEN WITH THE SEED: the statements are not yours to turn. If you find one false, say at which input.
  Laid BY PROGRAM, IN A SANDBOX (cutbox-rows.mjs): the forced cells as the released guide's own fill.sh prints them over the translation a47a9f6c82540972… (all of the seat's roots in one cut). By AI agents, Wed Nov 11 2026. No macro, syntax, notation, axiom, sorry.
-/
import Derived.Test.YtpgnneaaemfkoaaChecked
import GoSem.Claim
import GoSem.ClaimJoined
import GoSem.ClaimMapViews
import Derived.JoinedTies
import Derived.KernelRfl
namespace Go.Proofs.Ytpgnneaaemfkoaa
/- THE CELL 'sum', in the pinned program and in every row, IS THE sha256 OF THE DUMP (.gsa) THAT YtpgnneaaemfkoaaProg.lean LOADS. Nothing in Lean hashes anything: it is a label: what it is worth is what the hold of that sum in a sandbox is worth. -/
noncomputable def Try.pinned : Pinned := { name := "ytpgnneaaemfkoaa", sum := "a47a9f6c825409722492b80082789ed15004359f589b5194cab573f59196263a", checked := Try.checked }
namespace Rows
def none {H : Type} : Left H := { results := [], args := [] }

/-- 'laws.FnMarksAgree': WHATEVER THE INPUT: true; the input reads as it did. -/
def fnMarksAgreeSpec : ChangeSpec := { name := "fnMarksAgree", fn := fun _ => fun
  | [d] => { results := [.lit (.bool true)], args := [d] }
  | _ => none }
def fnMarksAgreeRow : OpenClaim := { program := "ytpgnneaaemfkoaa", sum := "a47a9f6c825409722492b80082789ed15004359f589b5194cab573f59196263a", func := "loop.example/tallyaudit/laws.FnMarksAgree", spec := "fnMarksAgree", apart := false }
def FnMarksAgreeSaid : Prop := fnMarksAgreeRow.holds Try.pinned (OpenSpec.ofChange fnMarksAgreeSpec)

/-- ITS FALSE NEIGHBOUR: 'it returns false'. Refute it at one input. -/
def fnMarksAgreeWrong : ChangeSpec := { name := "fnMarksAgree", fn := fun _ => fun
  | [d] => { results := [.lit (.bool false)], args := [d] }
  | _ => none }
def FnMarksAgreeWrongFalsely : Prop := fnMarksAgreeRow.holds Try.pinned (OpenSpec.ofChange fnMarksAgreeWrong)

/-- 'laws.FnMarksAgreeTurned': WHATEVER THE INPUT: true; the input reads as it did. -/
def fnMarksAgreeTurnedSpec : ChangeSpec := { name := "fnMarksAgreeTurned", fn := fun _ => fun
  | [d] => { results := [.lit (.bool true)], args := [d] }
  | _ => none }
def fnMarksAgreeTurnedRow : OpenClaim := { program := "ytpgnneaaemfkoaa", sum := "a47a9f6c825409722492b80082789ed15004359f589b5194cab573f59196263a", func := "loop.example/tallyaudit/laws.FnMarksAgreeTurned", spec := "fnMarksAgreeTurned", apart := false }
def FnMarksAgreeTurnedSaid : Prop := fnMarksAgreeTurnedRow.holds Try.pinned (OpenSpec.ofChange fnMarksAgreeTurnedSpec)

/-- ITS FALSE NEIGHBOUR: 'it returns false'. Refute it at one input. -/
def fnMarksAgreeTurnedWrong : ChangeSpec := { name := "fnMarksAgreeTurned", fn := fun _ => fun
  | [d] => { results := [.lit (.bool false)], args := [d] }
  | _ => none }
def FnMarksAgreeTurnedWrongFalsely : Prop := fnMarksAgreeTurnedRow.holds Try.pinned (OpenSpec.ofChange fnMarksAgreeTurnedWrong)

/-- 'laws.FnMarksAgreeOne': WHATEVER THE INPUT: true; the input reads as it did. -/
def fnMarksAgreeOneSpec : ChangeSpec := { name := "fnMarksAgreeOne", fn := fun _ => fun
  | [d] => { results := [.lit (.bool true)], args := [d] }
  | _ => none }
def fnMarksAgreeOneRow : OpenClaim := { program := "ytpgnneaaemfkoaa", sum := "a47a9f6c825409722492b80082789ed15004359f589b5194cab573f59196263a", func := "loop.example/tallyaudit/laws.FnMarksAgreeOne", spec := "fnMarksAgreeOne", apart := false }
def FnMarksAgreeOneSaid : Prop := fnMarksAgreeOneRow.holds Try.pinned (OpenSpec.ofChange fnMarksAgreeOneSpec)

/-- ITS FALSE NEIGHBOUR: 'it returns false'. Refute it at one input. -/
def fnMarksAgreeOneWrong : ChangeSpec := { name := "fnMarksAgreeOne", fn := fun _ => fun
  | [d] => { results := [.lit (.bool false)], args := [d] }
  | _ => none }
def FnMarksAgreeOneWrongFalsely : Prop := fnMarksAgreeOneRow.holds Try.pinned (OpenSpec.ofChange fnMarksAgreeOneWrong)

/-- 'laws.FnExactMarksOf': WHATEVER THE INPUT: true; the input reads as it did. -/
def fnExactMarksOfSpec : ChangeSpec := { name := "fnExactMarksOf", fn := fun _ => fun
  | [d1, d2] => { results := [.lit (.bool true)], args := [d1, d2] }
  | _ => none }
def fnExactMarksOfRow : OpenClaim := { program := "ytpgnneaaemfkoaa", sum := "a47a9f6c825409722492b80082789ed15004359f589b5194cab573f59196263a", func := "loop.example/tallyaudit/laws.FnExactMarksOf", spec := "fnExactMarksOf", unfollowed := true, recurses := true, apart := false }
def FnExactMarksOfSaid : Prop := fnExactMarksOfRow.holds Try.pinned (OpenSpec.ofChange fnExactMarksOfSpec)

/-- ITS FALSE NEIGHBOUR: 'it returns false'. Refute it at one input. -/
def fnExactMarksOfWrong : ChangeSpec := { name := "fnExactMarksOf", fn := fun _ => fun
  | [d1, d2] => { results := [.lit (.bool false)], args := [d1, d2] }
  | _ => none }
def FnExactMarksOfWrongFalsely : Prop := fnExactMarksOfRow.holds Try.pinned (OpenSpec.ofChange fnExactMarksOfWrong)

/-- 'laws.FnExactMarksAgree': WHATEVER THE INPUT: true; the input reads as it did. -/
def fnExactMarksAgreeSpec : ChangeSpec := { name := "fnExactMarksAgree", fn := fun _ => fun
  | [d] => { results := [.lit (.bool true)], args := [d] }
  | _ => none }
def fnExactMarksAgreeRow : OpenClaim := { program := "ytpgnneaaemfkoaa", sum := "a47a9f6c825409722492b80082789ed15004359f589b5194cab573f59196263a", func := "loop.example/tallyaudit/laws.FnExactMarksAgree", spec := "fnExactMarksAgree", apart := false }
def FnExactMarksAgreeSaid : Prop := fnExactMarksAgreeRow.holds Try.pinned (OpenSpec.ofChange fnExactMarksAgreeSpec)

/-- ITS FALSE NEIGHBOUR: 'it returns false'. Refute it at one input. -/
def fnExactMarksAgreeWrong : ChangeSpec := { name := "fnExactMarksAgree", fn := fun _ => fun
  | [d] => { results := [.lit (.bool false)], args := [d] }
  | _ => none }
def FnExactMarksAgreeWrongFalsely : Prop := fnExactMarksAgreeRow.holds Try.pinned (OpenSpec.ofChange fnExactMarksAgreeWrong)

/- THE SECOND FORM. 'bulk': how many values and letters a reading holds, each counted each time it is reached (what is shared counts as often as it is met; a slice's spare places count too). A statement '..UptoSaid' is the law's where the arguments, and the package variables that the reading takes, are together of bulk at most 1048576: NARROWER than '..Said'. Prove '..Said' where nothing that the law and all that it calls make is longer than what came in: it says more and counts as full. Else prove '..UptoSaid'. A law counts once. -/
mutual
def uptoBulk {H : Type} : DataW H → Nat
  | .lit (.string bytes) => bytes.length + 1
  | .lit _ => 1
  | .nil => 1
  | .ptr d => uptoBulk d + 1
  | .slice elems spare => uptoBulkAll elems + uptoBulkAll spare + 1
  | .agg parts => uptoBulkAll parts + 1
  | .iface _ d => uptoBulk d + 1
  | .map entries => uptoBulkEntries entries + 1
  | .held _ => 1
def uptoBulkAll {H : Type} : List (DataW H) → Nat
  | [] => 0
  | d :: r => uptoBulk d + uptoBulkAll r
def uptoBulkEntries {H : Type} : List (Lit × DataW H) → Nat
  | [] => 0
  | x :: r => uptoBulkEntry x + uptoBulkEntries r
def uptoBulkEntry {H : Type} : Lit × DataW H → Nat
  | (.string bytes, d) => bytes.length + uptoBulk d + 1
  | (_, d) => uptoBulk d + 1
 end
def uptoSmall : (H : Type) → List (DataW H) → Bool := fun _ ds => decide (uptoBulkAll ds ≤ 1048576)
def OpenSpec.upto (s : _root_.Go.ChangeSpec) : _root_.Go.OpenSpec := { _root_.Go.OpenSpec.ofChange s with cond := some uptoSmall }

/-- 'laws.FnMarksAgree', WHERE WHAT IT READS IS OF BULK AT MOST 1048576: true; the input reads as it did. -/
def fnMarksAgreeUptoRow : OpenClaim := { program := "ytpgnneaaemfkoaa", sum := "a47a9f6c825409722492b80082789ed15004359f589b5194cab573f59196263a", func := "loop.example/tallyaudit/laws.FnMarksAgree", spec := "fnMarksAgree", apart := false, narrowed := true }
def FnMarksAgreeUptoSaid : Prop := fnMarksAgreeUptoRow.holds Try.pinned (OpenSpec.upto fnMarksAgreeSpec)

/-- 'laws.FnMarksAgreeTurned', WHERE WHAT IT READS IS OF BULK AT MOST 1048576: true; the input reads as it did. -/
def fnMarksAgreeTurnedUptoRow : OpenClaim := { program := "ytpgnneaaemfkoaa", sum := "a47a9f6c825409722492b80082789ed15004359f589b5194cab573f59196263a", func := "loop.example/tallyaudit/laws.FnMarksAgreeTurned", spec := "fnMarksAgreeTurned", apart := false, narrowed := true }
def FnMarksAgreeTurnedUptoSaid : Prop := fnMarksAgreeTurnedUptoRow.holds Try.pinned (OpenSpec.upto fnMarksAgreeTurnedSpec)

/-- 'laws.FnMarksAgreeOne', WHERE WHAT IT READS IS OF BULK AT MOST 1048576: true; the input reads as it did. -/
def fnMarksAgreeOneUptoRow : OpenClaim := { program := "ytpgnneaaemfkoaa", sum := "a47a9f6c825409722492b80082789ed15004359f589b5194cab573f59196263a", func := "loop.example/tallyaudit/laws.FnMarksAgreeOne", spec := "fnMarksAgreeOne", apart := false, narrowed := true }
def FnMarksAgreeOneUptoSaid : Prop := fnMarksAgreeOneUptoRow.holds Try.pinned (OpenSpec.upto fnMarksAgreeOneSpec)

/-- 'laws.FnExactMarksOf', WHERE WHAT IT READS IS OF BULK AT MOST 1048576: true; the input reads as it did. -/
def fnExactMarksOfUptoRow : OpenClaim := { program := "ytpgnneaaemfkoaa", sum := "a47a9f6c825409722492b80082789ed15004359f589b5194cab573f59196263a", func := "loop.example/tallyaudit/laws.FnExactMarksOf", spec := "fnExactMarksOf", unfollowed := true, recurses := true, apart := false, narrowed := true }
def FnExactMarksOfUptoSaid : Prop := fnExactMarksOfUptoRow.holds Try.pinned (OpenSpec.upto fnExactMarksOfSpec)

/-- 'laws.FnExactMarksAgree', WHERE WHAT IT READS IS OF BULK AT MOST 1048576: true; the input reads as it did. -/
def fnExactMarksAgreeUptoRow : OpenClaim := { program := "ytpgnneaaemfkoaa", sum := "a47a9f6c825409722492b80082789ed15004359f589b5194cab573f59196263a", func := "loop.example/tallyaudit/laws.FnExactMarksAgree", spec := "fnExactMarksAgree", apart := false, narrowed := true }
def FnExactMarksAgreeUptoSaid : Prop := fnExactMarksAgreeUptoRow.holds Try.pinned (OpenSpec.upto fnExactMarksAgreeSpec)

end Rows
end Go.Proofs.Ytpgnneaaemfkoaa
