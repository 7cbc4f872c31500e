/-
  No cell of these rows narrows 'for every input' (looked for: loops, veiled, ifaces, maps, wideKeys, modest, calm, conditions, laid).
  DERIVED. THE GIVEN ROWS OF THIS SEAT. 12 by the template 'for every input the law returns true; each argument reads behind the call as it read before'; 0 by the template 'total and deterministic' (their statements: YtppnngccjlnejaaTotals.lean).
  GIVEN WITH THE SEED: the statements are not yours to turn. If you find one false, say at which input.
  Laid BY PROGRAM, IN A SANDBOX (cutbox-rows.mjs): the forced cells as the released guide's own fill.sh prints them over the translation 1c9152b3f1a28dc5… (all of the seat's roots in one cut). By AI agents, Wed Nov 11 2026. No macro, syntax, notation, axiom, sorry.
-/
import Derived.Test.YtppnngccjlnejaaChecked
import GoSem.Claim
import GoSem.ClaimJoined
import GoSem.ClaimMapViews
import Derived.JoinedTies
import Derived.KernelRfl
namespace Go.Proofs.Ytppnngccjlnejaa
/- THE CELL 'sum', in the pinned program and in every row, IS THE sha256 OF THE DUMP (.gsa) THAT YtppnngccjlnejaaProg.lean LOADS. Nothing in Lean hashes anything: it is a label: what it is worth is what the hold of that sum in a sandbox is worth. -/
noncomputable def Try.pinned : Pinned := { name := "ytppnngccjlnejaa", sum := "1c9152b3f1a28dc550cc2e469b8d20c5b8c13ad477d634702689cffaf318414d", checked := Try.checked }
namespace Rows
def none {H : Type} : Left H := { results := [], args := [] }

/-- 'laws.FnBallotText': WHATEVER THE INPUT: true; the input reads as it did. -/
def fnBallotTextSpec : ChangeSpec := { name := "fnBallotText", fn := fun _ => fun
  | [d] => { results := [.lit (.bool true)], args := [d] }
  | _ => none }
def fnBallotTextRow : OpenClaim := { program := "ytppnngccjlnejaa", sum := "1c9152b3f1a28dc550cc2e469b8d20c5b8c13ad477d634702689cffaf318414d", func := "loop.example/tallyaudit/laws.FnBallotText", spec := "fnBallotText", unfollowed := true, recurses := true, apart := false }
def FnBallotTextSaid : Prop := fnBallotTextRow.holds Try.pinned (OpenSpec.ofChange fnBallotTextSpec)

/-- ITS FALSE NEIGHBOUR: 'it returns false'. Refute it at one input. -/
def fnBallotTextWrong : ChangeSpec := { name := "fnBallotText", fn := fun _ => fun
  | [d] => { results := [.lit (.bool false)], args := [d] }
  | _ => none }
def FnBallotTextWrongFalsely : Prop := fnBallotTextRow.holds Try.pinned (OpenSpec.ofChange fnBallotTextWrong)

/-- 'laws.FnBallotParse': WHATEVER THE INPUT: true; the input reads as it did. -/
def fnBallotParseSpec : ChangeSpec := { name := "fnBallotParse", fn := fun _ => fun
  | [d] => { results := [.lit (.bool true)], args := [d] }
  | _ => none }
def fnBallotParseRow : OpenClaim := { program := "ytppnngccjlnejaa", sum := "1c9152b3f1a28dc550cc2e469b8d20c5b8c13ad477d634702689cffaf318414d", func := "loop.example/tallyaudit/laws.FnBallotParse", spec := "fnBallotParse", unfollowed := true, recurses := true, apart := false }
def FnBallotParseSaid : Prop := fnBallotParseRow.holds Try.pinned (OpenSpec.ofChange fnBallotParseSpec)

/-- ITS FALSE NEIGHBOUR: 'it returns false'. Refute it at one input. -/
def fnBallotParseWrong : ChangeSpec := { name := "fnBallotParse", fn := fun _ => fun
  | [d] => { results := [.lit (.bool false)], args := [d] }
  | _ => none }
def FnBallotParseWrongFalsely : Prop := fnBallotParseRow.holds Try.pinned (OpenSpec.ofChange fnBallotParseWrong)

/-- 'laws.FnBallotTwice': WHATEVER THE INPUT: true; the input reads as it did. -/
def fnBallotTwiceSpec : ChangeSpec := { name := "fnBallotTwice", fn := fun _ => fun
  | [d] => { results := [.lit (.bool true)], args := [d] }
  | _ => none }
def fnBallotTwiceRow : OpenClaim := { program := "ytppnngccjlnejaa", sum := "1c9152b3f1a28dc550cc2e469b8d20c5b8c13ad477d634702689cffaf318414d", func := "loop.example/tallyaudit/laws.FnBallotTwice", spec := "fnBallotTwice", unfollowed := true, recurses := true, apart := false }
def FnBallotTwiceSaid : Prop := fnBallotTwiceRow.holds Try.pinned (OpenSpec.ofChange fnBallotTwiceSpec)

/-- ITS FALSE NEIGHBOUR: 'it returns false'. Refute it at one input. -/
def fnBallotTwiceWrong : ChangeSpec := { name := "fnBallotTwice", fn := fun _ => fun
  | [d] => { results := [.lit (.bool false)], args := [d] }
  | _ => none }
def FnBallotTwiceWrongFalsely : Prop := fnBallotTwiceRow.holds Try.pinned (OpenSpec.ofChange fnBallotTwiceWrong)

/-- 'laws.FnBallotPart': WHATEVER THE INPUT: true; the input reads as it did. -/
def fnBallotPartSpec : ChangeSpec := { name := "fnBallotPart", fn := fun _ => fun
  | [d1, d2] => { results := [.lit (.bool true)], args := [d1, d2] }
  | _ => none }
def fnBallotPartRow : OpenClaim := { program := "ytppnngccjlnejaa", sum := "1c9152b3f1a28dc550cc2e469b8d20c5b8c13ad477d634702689cffaf318414d", func := "loop.example/tallyaudit/laws.FnBallotPart", spec := "fnBallotPart", unfollowed := true, recurses := true, apart := false }
def FnBallotPartSaid : Prop := fnBallotPartRow.holds Try.pinned (OpenSpec.ofChange fnBallotPartSpec)

/-- ITS FALSE NEIGHBOUR: 'it returns false'. Refute it at one input. -/
def fnBallotPartWrong : ChangeSpec := { name := "fnBallotPart", fn := fun _ => fun
  | [d1, d2] => { results := [.lit (.bool false)], args := [d1, d2] }
  | _ => none }
def FnBallotPartWrongFalsely : Prop := fnBallotPartRow.holds Try.pinned (OpenSpec.ofChange fnBallotPartWrong)

/-- 'laws.FnBallotFirst': WHATEVER THE INPUT: true; the input reads as it did. -/
def fnBallotFirstSpec : ChangeSpec := { name := "fnBallotFirst", fn := fun _ => fun
  | [d] => { results := [.lit (.bool true)], args := [d] }
  | _ => none }
def fnBallotFirstRow : OpenClaim := { program := "ytppnngccjlnejaa", sum := "1c9152b3f1a28dc550cc2e469b8d20c5b8c13ad477d634702689cffaf318414d", func := "loop.example/tallyaudit/laws.FnBallotFirst", spec := "fnBallotFirst", unfollowed := true, recurses := true, apart := false }
def FnBallotFirstSaid : Prop := fnBallotFirstRow.holds Try.pinned (OpenSpec.ofChange fnBallotFirstSpec)

/-- ITS FALSE NEIGHBOUR: 'it returns false'. Refute it at one input. -/
def fnBallotFirstWrong : ChangeSpec := { name := "fnBallotFirst", fn := fun _ => fun
  | [d] => { results := [.lit (.bool false)], args := [d] }
  | _ => none }
def FnBallotFirstWrongFalsely : Prop := fnBallotFirstRow.holds Try.pinned (OpenSpec.ofChange fnBallotFirstWrong)

/-- 'laws.FnBallotPrefers': WHATEVER THE INPUT: true; the input reads as it did. -/
def fnBallotPrefersSpec : ChangeSpec := { name := "fnBallotPrefers", fn := fun _ => fun
  | [d] => { results := [.lit (.bool true)], args := [d] }
  | _ => none }
def fnBallotPrefersRow : OpenClaim := { program := "ytppnngccjlnejaa", sum := "1c9152b3f1a28dc550cc2e469b8d20c5b8c13ad477d634702689cffaf318414d", func := "loop.example/tallyaudit/laws.FnBallotPrefers", spec := "fnBallotPrefers", unfollowed := true, recurses := true, apart := false }
def FnBallotPrefersSaid : Prop := fnBallotPrefersRow.holds Try.pinned (OpenSpec.ofChange fnBallotPrefersSpec)

/-- ITS FALSE NEIGHBOUR: 'it returns false'. Refute it at one input. -/
def fnBallotPrefersWrong : ChangeSpec := { name := "fnBallotPrefers", fn := fun _ => fun
  | [d] => { results := [.lit (.bool false)], args := [d] }
  | _ => none }
def FnBallotPrefersWrongFalsely : Prop := fnBallotPrefersRow.holds Try.pinned (OpenSpec.ofChange fnBallotPrefersWrong)

/-- 'laws.FnBallotPrefersAll': WHATEVER THE INPUT: true; the input reads as it did. -/
def fnBallotPrefersAllSpec : ChangeSpec := { name := "fnBallotPrefersAll", fn := fun _ => fun
  | [d] => { results := [.lit (.bool true)], args := [d] }
  | _ => none }
def fnBallotPrefersAllRow : OpenClaim := { program := "ytppnngccjlnejaa", sum := "1c9152b3f1a28dc550cc2e469b8d20c5b8c13ad477d634702689cffaf318414d", func := "loop.example/tallyaudit/laws.FnBallotPrefersAll", spec := "fnBallotPrefersAll", unfollowed := true, recurses := true, apart := false }
def FnBallotPrefersAllSaid : Prop := fnBallotPrefersAllRow.holds Try.pinned (OpenSpec.ofChange fnBallotPrefersAllSpec)

/-- ITS FALSE NEIGHBOUR: 'it returns false'. Refute it at one input. -/
def fnBallotPrefersAllWrong : ChangeSpec := { name := "fnBallotPrefersAll", fn := fun _ => fun
  | [d] => { results := [.lit (.bool false)], args := [d] }
  | _ => none }
def FnBallotPrefersAllWrongFalsely : Prop := fnBallotPrefersAllRow.holds Try.pinned (OpenSpec.ofChange fnBallotPrefersAllWrong)

/-- 'laws.FnExactBallotValid': WHATEVER THE INPUT: true; the input reads as it did. -/
def fnExactBallotValidSpec : ChangeSpec := { name := "fnExactBallotValid", fn := fun _ => fun
  | [d1, d2] => { results := [.lit (.bool true)], args := [d1, d2] }
  | _ => none }
def fnExactBallotValidRow : OpenClaim := { program := "ytppnngccjlnejaa", sum := "1c9152b3f1a28dc550cc2e469b8d20c5b8c13ad477d634702689cffaf318414d", func := "loop.example/tallyaudit/laws.FnExactBallotValid", spec := "fnExactBallotValid", unfollowed := true, recurses := true, apart := false }
def FnExactBallotValidSaid : Prop := fnExactBallotValidRow.holds Try.pinned (OpenSpec.ofChange fnExactBallotValidSpec)

/-- ITS FALSE NEIGHBOUR: 'it returns false'. Refute it at one input. -/
def fnExactBallotValidWrong : ChangeSpec := { name := "fnExactBallotValid", fn := fun _ => fun
  | [d1, d2] => { results := [.lit (.bool false)], args := [d1, d2] }
  | _ => none }
def FnExactBallotValidWrongFalsely : Prop := fnExactBallotValidRow.holds Try.pinned (OpenSpec.ofChange fnExactBallotValidWrong)

/-- 'laws.FnExactBallotText': WHATEVER THE INPUT: true; the input reads as it did. -/
def fnExactBallotTextSpec : ChangeSpec := { name := "fnExactBallotText", fn := fun _ => fun
  | [d] => { results := [.lit (.bool true)], args := [d] }
  | _ => none }
def fnExactBallotTextRow : OpenClaim := { program := "ytppnngccjlnejaa", sum := "1c9152b3f1a28dc550cc2e469b8d20c5b8c13ad477d634702689cffaf318414d", func := "loop.example/tallyaudit/laws.FnExactBallotText", spec := "fnExactBallotText", unfollowed := true, recurses := true, apart := false }
def FnExactBallotTextSaid : Prop := fnExactBallotTextRow.holds Try.pinned (OpenSpec.ofChange fnExactBallotTextSpec)

/-- ITS FALSE NEIGHBOUR: 'it returns false'. Refute it at one input. -/
def fnExactBallotTextWrong : ChangeSpec := { name := "fnExactBallotText", fn := fun _ => fun
  | [d] => { results := [.lit (.bool false)], args := [d] }
  | _ => none }
def FnExactBallotTextWrongFalsely : Prop := fnExactBallotTextRow.holds Try.pinned (OpenSpec.ofChange fnExactBallotTextWrong)

/-- 'laws.FnExactBallotParse': WHATEVER THE INPUT: true; the input reads as it did. -/
def fnExactBallotParseSpec : ChangeSpec := { name := "fnExactBallotParse", fn := fun _ => fun
  | [d] => { results := [.lit (.bool true)], args := [d] }
  | _ => none }
def fnExactBallotParseRow : OpenClaim := { program := "ytppnngccjlnejaa", sum := "1c9152b3f1a28dc550cc2e469b8d20c5b8c13ad477d634702689cffaf318414d", func := "loop.example/tallyaudit/laws.FnExactBallotParse", spec := "fnExactBallotParse", unfollowed := true, recurses := true, apart := false }
def FnExactBallotParseSaid : Prop := fnExactBallotParseRow.holds Try.pinned (OpenSpec.ofChange fnExactBallotParseSpec)

/-- ITS FALSE NEIGHBOUR: 'it returns false'. Refute it at one input. -/
def fnExactBallotParseWrong : ChangeSpec := { name := "fnExactBallotParse", fn := fun _ => fun
  | [d] => { results := [.lit (.bool false)], args := [d] }
  | _ => none }
def FnExactBallotParseWrongFalsely : Prop := fnExactBallotParseRow.holds Try.pinned (OpenSpec.ofChange fnExactBallotParseWrong)

/-- 'laws.FnExactBallotFirst': WHATEVER THE INPUT: true; the input reads as it did. -/
def fnExactBallotFirstSpec : ChangeSpec := { name := "fnExactBallotFirst", fn := fun _ => fun
  | [d1, d2] => { results := [.lit (.bool true)], args := [d1, d2] }
  | _ => none }
def fnExactBallotFirstRow : OpenClaim := { program := "ytppnngccjlnejaa", sum := "1c9152b3f1a28dc550cc2e469b8d20c5b8c13ad477d634702689cffaf318414d", func := "loop.example/tallyaudit/laws.FnExactBallotFirst", spec := "fnExactBallotFirst", unfollowed := true, recurses := true, apart := false }
def FnExactBallotFirstSaid : Prop := fnExactBallotFirstRow.holds Try.pinned (OpenSpec.ofChange fnExactBallotFirstSpec)

/-- ITS FALSE NEIGHBOUR: 'it returns false'. Refute it at one input. -/
def fnExactBallotFirstWrong : ChangeSpec := { name := "fnExactBallotFirst", fn := fun _ => fun
  | [d1, d2] => { results := [.lit (.bool false)], args := [d1, d2] }
  | _ => none }
def FnExactBallotFirstWrongFalsely : Prop := fnExactBallotFirstRow.holds Try.pinned (OpenSpec.ofChange fnExactBallotFirstWrong)

/-- 'laws.FnExactBallotPrefers': WHATEVER THE INPUT: true; the input reads as it did. -/
def fnExactBallotPrefersSpec : ChangeSpec := { name := "fnExactBallotPrefers", fn := fun _ => fun
  | [d1, d2, d3] => { results := [.lit (.bool true)], args := [d1, d2, d3] }
  | _ => none }
def fnExactBallotPrefersRow : OpenClaim := { program := "ytppnngccjlnejaa", sum := "1c9152b3f1a28dc550cc2e469b8d20c5b8c13ad477d634702689cffaf318414d", func := "loop.example/tallyaudit/laws.FnExactBallotPrefers", spec := "fnExactBallotPrefers", unfollowed := true, recurses := true, apart := false }
def FnExactBallotPrefersSaid : Prop := fnExactBallotPrefersRow.holds Try.pinned (OpenSpec.ofChange fnExactBallotPrefersSpec)

/-- ITS FALSE NEIGHBOUR: 'it returns false'. Refute it at one input. -/
def fnExactBallotPrefersWrong : ChangeSpec := { name := "fnExactBallotPrefers", fn := fun _ => fun
  | [d1, d2, d3] => { results := [.lit (.bool false)], args := [d1, d2, d3] }
  | _ => none }
def FnExactBallotPrefersWrongFalsely : Prop := fnExactBallotPrefersRow.holds Try.pinned (OpenSpec.ofChange fnExactBallotPrefersWrong)

/- THE SECOND FORM. 'bulk': how many values and letters a reading holds, each counted each time it is reached (what is shared counts as often as it is met; a slice's spare places count too). A statement '..UptoSaid' is the law's where the arguments, and the package variables that the reading takes, are together of bulk at most 1048576: NARROWER than '..Said'. Prove '..Said' where nothing that the law and all that it calls make is longer than what came in: it says more and counts as full. Else prove '..UptoSaid'. A law counts once. -/
mutual
def uptoBulk {H : Type} : DataW H → Nat
  | .lit (.string bytes) => bytes.length + 1
  | .lit _ => 1
  | .nil => 1
  | .ptr d => uptoBulk d + 1
  | .slice elems spare => uptoBulkAll elems + uptoBulkAll spare + 1
  | .agg parts => uptoBulkAll parts + 1
  | .iface _ d => uptoBulk d + 1
  | .map entries => uptoBulkEntries entries + 1
  | .held _ => 1
def uptoBulkAll {H : Type} : List (DataW H) → Nat
  | [] => 0
  | d :: r => uptoBulk d + uptoBulkAll r
def uptoBulkEntries {H : Type} : List (Lit × DataW H) → Nat
  | [] => 0
  | x :: r => uptoBulkEntry x + uptoBulkEntries r
def uptoBulkEntry {H : Type} : Lit × DataW H → Nat
  | (.string bytes, d) => bytes.length + uptoBulk d + 1
  | (_, d) => uptoBulk d + 1
 end
def uptoSmall : (H : Type) → List (DataW H) → Bool := fun _ ds => decide (uptoBulkAll ds ≤ 1048576)
def OpenSpec.upto (s : _root_.Go.ChangeSpec) : _root_.Go.OpenSpec := { _root_.Go.OpenSpec.ofChange s with cond := some uptoSmall }

/-- 'laws.FnBallotText', WHERE WHAT IT READS IS OF BULK AT MOST 1048576: true; the input reads as it did. -/
def fnBallotTextUptoRow : OpenClaim := { program := "ytppnngccjlnejaa", sum := "1c9152b3f1a28dc550cc2e469b8d20c5b8c13ad477d634702689cffaf318414d", func := "loop.example/tallyaudit/laws.FnBallotText", spec := "fnBallotText", unfollowed := true, recurses := true, apart := false, narrowed := true }
def FnBallotTextUptoSaid : Prop := fnBallotTextUptoRow.holds Try.pinned (OpenSpec.upto fnBallotTextSpec)

/-- 'laws.FnBallotParse', WHERE WHAT IT READS IS OF BULK AT MOST 1048576: true; the input reads as it did. -/
def fnBallotParseUptoRow : OpenClaim := { program := "ytppnngccjlnejaa", sum := "1c9152b3f1a28dc550cc2e469b8d20c5b8c13ad477d634702689cffaf318414d", func := "loop.example/tallyaudit/laws.FnBallotParse", spec := "fnBallotParse", unfollowed := true, recurses := true, apart := false, narrowed := true }
def FnBallotParseUptoSaid : Prop := fnBallotParseUptoRow.holds Try.pinned (OpenSpec.upto fnBallotParseSpec)

/-- 'laws.FnBallotTwice', WHERE WHAT IT READS IS OF BULK AT MOST 1048576: true; the input reads as it did. -/
def fnBallotTwiceUptoRow : OpenClaim := { program := "ytppnngccjlnejaa", sum := "1c9152b3f1a28dc550cc2e469b8d20c5b8c13ad477d634702689cffaf318414d", func := "loop.example/tallyaudit/laws.FnBallotTwice", spec := "fnBallotTwice", unfollowed := true, recurses := true, apart := false, narrowed := true }
def FnBallotTwiceUptoSaid : Prop := fnBallotTwiceUptoRow.holds Try.pinned (OpenSpec.upto fnBallotTwiceSpec)

/-- 'laws.FnBallotPart', WHERE WHAT IT READS IS OF BULK AT MOST 1048576: true; the input reads as it did. -/
def fnBallotPartUptoRow : OpenClaim := { program := "ytppnngccjlnejaa", sum := "1c9152b3f1a28dc550cc2e469b8d20c5b8c13ad477d634702689cffaf318414d", func := "loop.example/tallyaudit/laws.FnBallotPart", spec := "fnBallotPart", unfollowed := true, recurses := true, apart := false, narrowed := true }
def FnBallotPartUptoSaid : Prop := fnBallotPartUptoRow.holds Try.pinned (OpenSpec.upto fnBallotPartSpec)

/-- 'laws.FnBallotFirst', WHERE WHAT IT READS IS OF BULK AT MOST 1048576: true; the input reads as it did. -/
def fnBallotFirstUptoRow : OpenClaim := { program := "ytppnngccjlnejaa", sum := "1c9152b3f1a28dc550cc2e469b8d20c5b8c13ad477d634702689cffaf318414d", func := "loop.example/tallyaudit/laws.FnBallotFirst", spec := "fnBallotFirst", unfollowed := true, recurses := true, apart := false, narrowed := true }
def FnBallotFirstUptoSaid : Prop := fnBallotFirstUptoRow.holds Try.pinned (OpenSpec.upto fnBallotFirstSpec)

/-- 'laws.FnBallotPrefers', WHERE WHAT IT READS IS OF BULK AT MOST 1048576: true; the input reads as it did. -/
def fnBallotPrefersUptoRow : OpenClaim := { program := "ytppnngccjlnejaa", sum := "1c9152b3f1a28dc550cc2e469b8d20c5b8c13ad477d634702689cffaf318414d", func := "loop.example/tallyaudit/laws.FnBallotPrefers", spec := "fnBallotPrefers", unfollowed := true, recurses := true, apart := false, narrowed := true }
def FnBallotPrefersUptoSaid : Prop := fnBallotPrefersUptoRow.holds Try.pinned (OpenSpec.upto fnBallotPrefersSpec)

/-- 'laws.FnBallotPrefersAll', WHERE WHAT IT READS IS OF BULK AT MOST 1048576: true; the input reads as it did. -/
def fnBallotPrefersAllUptoRow : OpenClaim := { program := "ytppnngccjlnejaa", sum := "1c9152b3f1a28dc550cc2e469b8d20c5b8c13ad477d634702689cffaf318414d", func := "loop.example/tallyaudit/laws.FnBallotPrefersAll", spec := "fnBallotPrefersAll", unfollowed := true, recurses := true, apart := false, narrowed := true }
def FnBallotPrefersAllUptoSaid : Prop := fnBallotPrefersAllUptoRow.holds Try.pinned (OpenSpec.upto fnBallotPrefersAllSpec)

/-- 'laws.FnExactBallotValid', WHERE WHAT IT READS IS OF BULK AT MOST 1048576: true; the input reads as it did. -/
def fnExactBallotValidUptoRow : OpenClaim := { program := "ytppnngccjlnejaa", sum := "1c9152b3f1a28dc550cc2e469b8d20c5b8c13ad477d634702689cffaf318414d", func := "loop.example/tallyaudit/laws.FnExactBallotValid", spec := "fnExactBallotValid", unfollowed := true, recurses := true, apart := false, narrowed := true }
def FnExactBallotValidUptoSaid : Prop := fnExactBallotValidUptoRow.holds Try.pinned (OpenSpec.upto fnExactBallotValidSpec)

/-- 'laws.FnExactBallotText', WHERE WHAT IT READS IS OF BULK AT MOST 1048576: true; the input reads as it did. -/
def fnExactBallotTextUptoRow : OpenClaim := { program := "ytppnngccjlnejaa", sum := "1c9152b3f1a28dc550cc2e469b8d20c5b8c13ad477d634702689cffaf318414d", func := "loop.example/tallyaudit/laws.FnExactBallotText", spec := "fnExactBallotText", unfollowed := true, recurses := true, apart := false, narrowed := true }
def FnExactBallotTextUptoSaid : Prop := fnExactBallotTextUptoRow.holds Try.pinned (OpenSpec.upto fnExactBallotTextSpec)

/-- 'laws.FnExactBallotParse', WHERE WHAT IT READS IS OF BULK AT MOST 1048576: true; the input reads as it did. -/
def fnExactBallotParseUptoRow : OpenClaim := { program := "ytppnngccjlnejaa", sum := "1c9152b3f1a28dc550cc2e469b8d20c5b8c13ad477d634702689cffaf318414d", func := "loop.example/tallyaudit/laws.FnExactBallotParse", spec := "fnExactBallotParse", unfollowed := true, recurses := true, apart := false, narrowed := true }
def FnExactBallotParseUptoSaid : Prop := fnExactBallotParseUptoRow.holds Try.pinned (OpenSpec.upto fnExactBallotParseSpec)

/-- 'laws.FnExactBallotFirst', WHERE WHAT IT READS IS OF BULK AT MOST 1048576: true; the input reads as it did. -/
def fnExactBallotFirstUptoRow : OpenClaim := { program := "ytppnngccjlnejaa", sum := "1c9152b3f1a28dc550cc2e469b8d20c5b8c13ad477d634702689cffaf318414d", func := "loop.example/tallyaudit/laws.FnExactBallotFirst", spec := "fnExactBallotFirst", unfollowed := true, recurses := true, apart := false, narrowed := true }
def FnExactBallotFirstUptoSaid : Prop := fnExactBallotFirstUptoRow.holds Try.pinned (OpenSpec.upto fnExactBallotFirstSpec)

/-- 'laws.FnExactBallotPrefers', WHERE WHAT IT READS IS OF BULK AT MOST 1048576: true; the input reads as it did. -/
def fnExactBallotPrefersUptoRow : OpenClaim := { program := "ytppnngccjlnejaa", sum := "1c9152b3f1a28dc550cc2e469b8d20c5b8c13ad477d634702689cffaf318414d", func := "loop.example/tallyaudit/laws.FnExactBallotPrefers", spec := "fnExactBallotPrefers", unfollowed := true, recurses := true, apart := false, narrowed := true }
def FnExactBallotPrefersUptoSaid : Prop := fnExactBallotPrefersUptoRow.holds Try.pinned (OpenSpec.upto fnExactBallotPrefersSpec)

end Rows
end Go.Proofs.Ytppnngccjlnejaa
