/-
  No cell of these rows narrows 'for every input' (looked for: loops, veiled, ifaces, maps, wideKeys, modest, calm, conditions, laid).
  DERIVED. THE GIVEN ROWS OF THIS SEAT. 12 by the template 'for every input the law returns true; each argument reads behind the call as it read before'; 0 by the template 'total and deterministic' (their statements: YtbcemgmfkddafaaTotals.lean).
  GIVEN WITH THE SEED: the statements are not yours to turn. If you find one false, say at which input.
  Laid BY PROGRAM, IN A SANDBOX (cutbox-rows.mjs): the forced cells as the released guide's own fill.sh prints them over the translation 1da37cc45d958269… (all of the seat's roots in one cut). By AI agents, Wed Nov 11 2026. No macro, syntax, notation, axiom, sorry.
-/
import Derived.Test.YtbcemgmfkddafaaChecked
import GoSem.Claim
import GoSem.ClaimJoined
import GoSem.ClaimMapViews
import Derived.JoinedTies
import Derived.KernelRfl
namespace Go.Proofs.Ytbcemgmfkddafaa
/- THE CELL 'sum', in the pinned program and in every row, IS THE sha256 OF THE DUMP (.gsa) THAT YtbcemgmfkddafaaProg.lean LOADS. Nothing in Lean hashes anything: it is a label: what it is worth is what the hold of that sum in a sandbox is worth. -/
noncomputable def Try.pinned : Pinned := { name := "ytbcemgmfkddafaa", sum := "1da37cc45d958269da3d3e5a8fc808cbabfc4fab6ddb76285915286e92ebd1aa", checked := Try.checked }
namespace Rows
def none {H : Type} : Left H := { results := [], args := [] }

/-- 'laws.FnGap': WHATEVER THE INPUT: true; the input reads as it did. -/
def fnGapSpec : ChangeSpec := { name := "fnGap", fn := fun _ => fun
  | [d] => { results := [.lit (.bool true)], args := [d] }
  | _ => none }
def fnGapRow : OpenClaim := { program := "ytbcemgmfkddafaa", sum := "1da37cc45d958269da3d3e5a8fc808cbabfc4fab6ddb76285915286e92ebd1aa", func := "loop.example/tallyaudit/laws.FnGap", spec := "fnGap", unfollowed := true, recurses := true, apart := false }
def FnGapSaid : Prop := fnGapRow.holds Try.pinned (OpenSpec.ofChange fnGapSpec)

/-- ITS FALSE NEIGHBOUR: 'it returns false'. Refute it at one input. -/
def fnGapWrong : ChangeSpec := { name := "fnGap", fn := fun _ => fun
  | [d] => { results := [.lit (.bool false)], args := [d] }
  | _ => none }
def FnGapWrongFalsely : Prop := fnGapRow.holds Try.pinned (OpenSpec.ofChange fnGapWrong)

/-- 'laws.FnGapSquares': WHATEVER THE INPUT: true; the input reads as it did. -/
def fnGapSquaresSpec : ChangeSpec := { name := "fnGapSquares", fn := fun _ => fun
  | [d] => { results := [.lit (.bool true)], args := [d] }
  | _ => none }
def fnGapSquaresRow : OpenClaim := { program := "ytbcemgmfkddafaa", sum := "1da37cc45d958269da3d3e5a8fc808cbabfc4fab6ddb76285915286e92ebd1aa", func := "loop.example/tallyaudit/laws.FnGapSquares", spec := "fnGapSquares", unfollowed := true, recurses := true, apart := false }
def FnGapSquaresSaid : Prop := fnGapSquaresRow.holds Try.pinned (OpenSpec.ofChange fnGapSquaresSpec)

/-- ITS FALSE NEIGHBOUR: 'it returns false'. Refute it at one input. -/
def fnGapSquaresWrong : ChangeSpec := { name := "fnGapSquares", fn := fun _ => fun
  | [d] => { results := [.lit (.bool false)], args := [d] }
  | _ => none }
def FnGapSquaresWrongFalsely : Prop := fnGapSquaresRow.holds Try.pinned (OpenSpec.ofChange fnGapSquaresWrong)

/-- 'laws.FnGapRemainder': WHATEVER THE INPUT: true; the input reads as it did. -/
def fnGapRemainderSpec : ChangeSpec := { name := "fnGapRemainder", fn := fun _ => fun
  | [d] => { results := [.lit (.bool true)], args := [d] }
  | _ => none }
def fnGapRemainderRow : OpenClaim := { program := "ytbcemgmfkddafaa", sum := "1da37cc45d958269da3d3e5a8fc808cbabfc4fab6ddb76285915286e92ebd1aa", func := "loop.example/tallyaudit/laws.FnGapRemainder", spec := "fnGapRemainder", unfollowed := true, recurses := true, apart := false }
def FnGapRemainderSaid : Prop := fnGapRemainderRow.holds Try.pinned (OpenSpec.ofChange fnGapRemainderSpec)

/-- ITS FALSE NEIGHBOUR: 'it returns false'. Refute it at one input. -/
def fnGapRemainderWrong : ChangeSpec := { name := "fnGapRemainder", fn := fun _ => fun
  | [d] => { results := [.lit (.bool false)], args := [d] }
  | _ => none }
def FnGapRemainderWrongFalsely : Prop := fnGapRemainderRow.holds Try.pinned (OpenSpec.ofChange fnGapRemainderWrong)

/-- 'laws.FnSquaresRemainder': WHATEVER THE INPUT: true; the input reads as it did. -/
def fnSquaresRemainderSpec : ChangeSpec := { name := "fnSquaresRemainder", fn := fun _ => fun
  | [d] => { results := [.lit (.bool true)], args := [d] }
  | _ => none }
def fnSquaresRemainderRow : OpenClaim := { program := "ytbcemgmfkddafaa", sum := "1da37cc45d958269da3d3e5a8fc808cbabfc4fab6ddb76285915286e92ebd1aa", func := "loop.example/tallyaudit/laws.FnSquaresRemainder", spec := "fnSquaresRemainder", unfollowed := true, recurses := true, apart := false }
def FnSquaresRemainderSaid : Prop := fnSquaresRemainderRow.holds Try.pinned (OpenSpec.ofChange fnSquaresRemainderSpec)

/-- ITS FALSE NEIGHBOUR: 'it returns false'. Refute it at one input. -/
def fnSquaresRemainderWrong : ChangeSpec := { name := "fnSquaresRemainder", fn := fun _ => fun
  | [d] => { results := [.lit (.bool false)], args := [d] }
  | _ => none }
def FnSquaresRemainderWrongFalsely : Prop := fnSquaresRemainderRow.holds Try.pinned (OpenSpec.ofChange fnSquaresRemainderWrong)

/-- 'laws.FnHurdle': WHATEVER THE INPUT: true; the input reads as it did. -/
def fnHurdleSpec : ChangeSpec := { name := "fnHurdle", fn := fun _ => fun
  | [d] => { results := [.lit (.bool true)], args := [d] }
  | _ => none }
def fnHurdleRow : OpenClaim := { program := "ytbcemgmfkddafaa", sum := "1da37cc45d958269da3d3e5a8fc808cbabfc4fab6ddb76285915286e92ebd1aa", func := "loop.example/tallyaudit/laws.FnHurdle", spec := "fnHurdle", apart := false }
def FnHurdleSaid : Prop := fnHurdleRow.holds Try.pinned (OpenSpec.ofChange fnHurdleSpec)

/-- ITS FALSE NEIGHBOUR: 'it returns false'. Refute it at one input. -/
def fnHurdleWrong : ChangeSpec := { name := "fnHurdle", fn := fun _ => fun
  | [d] => { results := [.lit (.bool false)], args := [d] }
  | _ => none }
def FnHurdleWrongFalsely : Prop := fnHurdleRow.holds Try.pinned (OpenSpec.ofChange fnHurdleWrong)

/-- 'laws.FnHurdleMore': WHATEVER THE INPUT: true; the input reads as it did. -/
def fnHurdleMoreSpec : ChangeSpec := { name := "fnHurdleMore", fn := fun _ => fun
  | [d] => { results := [.lit (.bool true)], args := [d] }
  | _ => none }
def fnHurdleMoreRow : OpenClaim := { program := "ytbcemgmfkddafaa", sum := "1da37cc45d958269da3d3e5a8fc808cbabfc4fab6ddb76285915286e92ebd1aa", func := "loop.example/tallyaudit/laws.FnHurdleMore", spec := "fnHurdleMore", apart := false }
def FnHurdleMoreSaid : Prop := fnHurdleMoreRow.holds Try.pinned (OpenSpec.ofChange fnHurdleMoreSpec)

/-- ITS FALSE NEIGHBOUR: 'it returns false'. Refute it at one input. -/
def fnHurdleMoreWrong : ChangeSpec := { name := "fnHurdleMore", fn := fun _ => fun
  | [d] => { results := [.lit (.bool false)], args := [d] }
  | _ => none }
def FnHurdleMoreWrongFalsely : Prop := fnHurdleMoreRow.holds Try.pinned (OpenSpec.ofChange fnHurdleMoreWrong)

/-- 'laws.FnParties': WHATEVER THE INPUT: true; the input reads as it did. -/
def fnPartiesSpec : ChangeSpec := { name := "fnParties", fn := fun _ => fun
  | [d] => { results := [.lit (.bool true)], args := [d] }
  | _ => none }
def fnPartiesRow : OpenClaim := { program := "ytbcemgmfkddafaa", sum := "1da37cc45d958269da3d3e5a8fc808cbabfc4fab6ddb76285915286e92ebd1aa", func := "loop.example/tallyaudit/laws.FnParties", spec := "fnParties", unfollowed := true, recurses := true, apart := false }
def FnPartiesSaid : Prop := fnPartiesRow.holds Try.pinned (OpenSpec.ofChange fnPartiesSpec)

/-- ITS FALSE NEIGHBOUR: 'it returns false'. Refute it at one input. -/
def fnPartiesWrong : ChangeSpec := { name := "fnParties", fn := fun _ => fun
  | [d] => { results := [.lit (.bool false)], args := [d] }
  | _ => none }
def FnPartiesWrongFalsely : Prop := fnPartiesRow.holds Try.pinned (OpenSpec.ofChange fnPartiesWrong)

/-- 'laws.FnPartiesScale': WHATEVER THE INPUT: true; the input reads as it did. -/
def fnPartiesScaleSpec : ChangeSpec := { name := "fnPartiesScale", fn := fun _ => fun
  | [d] => { results := [.lit (.bool true)], args := [d] }
  | _ => none }
def fnPartiesScaleRow : OpenClaim := { program := "ytbcemgmfkddafaa", sum := "1da37cc45d958269da3d3e5a8fc808cbabfc4fab6ddb76285915286e92ebd1aa", func := "loop.example/tallyaudit/laws.FnPartiesScale", spec := "fnPartiesScale", unfollowed := true, recurses := true, apart := false }
def FnPartiesScaleSaid : Prop := fnPartiesScaleRow.holds Try.pinned (OpenSpec.ofChange fnPartiesScaleSpec)

/-- ITS FALSE NEIGHBOUR: 'it returns false'. Refute it at one input. -/
def fnPartiesScaleWrong : ChangeSpec := { name := "fnPartiesScale", fn := fun _ => fun
  | [d] => { results := [.lit (.bool false)], args := [d] }
  | _ => none }
def FnPartiesScaleWrongFalsely : Prop := fnPartiesScaleRow.holds Try.pinned (OpenSpec.ofChange fnPartiesScaleWrong)

/-- 'laws.FnExactShareGap': WHATEVER THE INPUT: true; the input reads as it did. -/
def fnExactShareGapSpec : ChangeSpec := { name := "fnExactShareGap", fn := fun _ => fun
  | [d1, d2] => { results := [.lit (.bool true)], args := [d1, d2] }
  | _ => none }
def fnExactShareGapRow : OpenClaim := { program := "ytbcemgmfkddafaa", sum := "1da37cc45d958269da3d3e5a8fc808cbabfc4fab6ddb76285915286e92ebd1aa", func := "loop.example/tallyaudit/laws.FnExactShareGap", spec := "fnExactShareGap", unfollowed := true, recurses := true, apart := false }
def FnExactShareGapSaid : Prop := fnExactShareGapRow.holds Try.pinned (OpenSpec.ofChange fnExactShareGapSpec)

/-- ITS FALSE NEIGHBOUR: 'it returns false'. Refute it at one input. -/
def fnExactShareGapWrong : ChangeSpec := { name := "fnExactShareGap", fn := fun _ => fun
  | [d1, d2] => { results := [.lit (.bool false)], args := [d1, d2] }
  | _ => none }
def FnExactShareGapWrongFalsely : Prop := fnExactShareGapRow.holds Try.pinned (OpenSpec.ofChange fnExactShareGapWrong)

/-- 'laws.FnExactShareSquares': WHATEVER THE INPUT: true; the input reads as it did. -/
def fnExactShareSquaresSpec : ChangeSpec := { name := "fnExactShareSquares", fn := fun _ => fun
  | [d1, d2] => { results := [.lit (.bool true)], args := [d1, d2] }
  | _ => none }
def fnExactShareSquaresRow : OpenClaim := { program := "ytbcemgmfkddafaa", sum := "1da37cc45d958269da3d3e5a8fc808cbabfc4fab6ddb76285915286e92ebd1aa", func := "loop.example/tallyaudit/laws.FnExactShareSquares", spec := "fnExactShareSquares", unfollowed := true, recurses := true, apart := false }
def FnExactShareSquaresSaid : Prop := fnExactShareSquaresRow.holds Try.pinned (OpenSpec.ofChange fnExactShareSquaresSpec)

/-- ITS FALSE NEIGHBOUR: 'it returns false'. Refute it at one input. -/
def fnExactShareSquaresWrong : ChangeSpec := { name := "fnExactShareSquares", fn := fun _ => fun
  | [d1, d2] => { results := [.lit (.bool false)], args := [d1, d2] }
  | _ => none }
def FnExactShareSquaresWrongFalsely : Prop := fnExactShareSquaresRow.holds Try.pinned (OpenSpec.ofChange fnExactShareSquaresWrong)

/-- 'laws.FnExactShareHurdle': WHATEVER THE INPUT: true; the input reads as it did. -/
def fnExactShareHurdleSpec : ChangeSpec := { name := "fnExactShareHurdle", fn := fun _ => fun
  | [d1, d2] => { results := [.lit (.bool true)], args := [d1, d2] }
  | _ => none }
def fnExactShareHurdleRow : OpenClaim := { program := "ytbcemgmfkddafaa", sum := "1da37cc45d958269da3d3e5a8fc808cbabfc4fab6ddb76285915286e92ebd1aa", func := "loop.example/tallyaudit/laws.FnExactShareHurdle", spec := "fnExactShareHurdle", apart := false }
def FnExactShareHurdleSaid : Prop := fnExactShareHurdleRow.holds Try.pinned (OpenSpec.ofChange fnExactShareHurdleSpec)

/-- ITS FALSE NEIGHBOUR: 'it returns false'. Refute it at one input. -/
def fnExactShareHurdleWrong : ChangeSpec := { name := "fnExactShareHurdle", fn := fun _ => fun
  | [d1, d2] => { results := [.lit (.bool false)], args := [d1, d2] }
  | _ => none }
def FnExactShareHurdleWrongFalsely : Prop := fnExactShareHurdleRow.holds Try.pinned (OpenSpec.ofChange fnExactShareHurdleWrong)

/-- 'laws.FnExactShareParties': WHATEVER THE INPUT: true; the input reads as it did. -/
def fnExactSharePartiesSpec : ChangeSpec := { name := "fnExactShareParties", fn := fun _ => fun
  | [d] => { results := [.lit (.bool true)], args := [d] }
  | _ => none }
def fnExactSharePartiesRow : OpenClaim := { program := "ytbcemgmfkddafaa", sum := "1da37cc45d958269da3d3e5a8fc808cbabfc4fab6ddb76285915286e92ebd1aa", func := "loop.example/tallyaudit/laws.FnExactShareParties", spec := "fnExactShareParties", unfollowed := true, recurses := true, apart := false }
def FnExactSharePartiesSaid : Prop := fnExactSharePartiesRow.holds Try.pinned (OpenSpec.ofChange fnExactSharePartiesSpec)

/-- ITS FALSE NEIGHBOUR: 'it returns false'. Refute it at one input. -/
def fnExactSharePartiesWrong : ChangeSpec := { name := "fnExactShareParties", fn := fun _ => fun
  | [d] => { results := [.lit (.bool false)], args := [d] }
  | _ => none }
def FnExactSharePartiesWrongFalsely : Prop := fnExactSharePartiesRow.holds Try.pinned (OpenSpec.ofChange fnExactSharePartiesWrong)

/- THE SECOND FORM. 'bulk': how many values and letters a reading holds, each counted each time it is reached (what is shared counts as often as it is met; a slice's spare places count too). A statement '..UptoSaid' is the law's where the arguments, and the package variables that the reading takes, are together of bulk at most 1048576: NARROWER than '..Said'. Prove '..Said' where nothing that the law and all that it calls make is longer than what came in: it says more and counts as full. Else prove '..UptoSaid'. A law counts once. -/
mutual
def uptoBulk {H : Type} : DataW H → Nat
  | .lit (.string bytes) => bytes.length + 1
  | .lit _ => 1
  | .nil => 1
  | .ptr d => uptoBulk d + 1
  | .slice elems spare => uptoBulkAll elems + uptoBulkAll spare + 1
  | .agg parts => uptoBulkAll parts + 1
  | .iface _ d => uptoBulk d + 1
  | .map entries => uptoBulkEntries entries + 1
  | .held _ => 1
def uptoBulkAll {H : Type} : List (DataW H) → Nat
  | [] => 0
  | d :: r => uptoBulk d + uptoBulkAll r
def uptoBulkEntries {H : Type} : List (Lit × DataW H) → Nat
  | [] => 0
  | x :: r => uptoBulkEntry x + uptoBulkEntries r
def uptoBulkEntry {H : Type} : Lit × DataW H → Nat
  | (.string bytes, d) => bytes.length + uptoBulk d + 1
  | (_, d) => uptoBulk d + 1
 end
def uptoSmall : (H : Type) → List (DataW H) → Bool := fun _ ds => decide (uptoBulkAll ds ≤ 1048576)
def OpenSpec.upto (s : _root_.Go.ChangeSpec) : _root_.Go.OpenSpec := { _root_.Go.OpenSpec.ofChange s with cond := some uptoSmall }

/-- 'laws.FnGap', WHERE WHAT IT READS IS OF BULK AT MOST 1048576: true; the input reads as it did. -/
def fnGapUptoRow : OpenClaim := { program := "ytbcemgmfkddafaa", sum := "1da37cc45d958269da3d3e5a8fc808cbabfc4fab6ddb76285915286e92ebd1aa", func := "loop.example/tallyaudit/laws.FnGap", spec := "fnGap", unfollowed := true, recurses := true, apart := false, narrowed := true }
def FnGapUptoSaid : Prop := fnGapUptoRow.holds Try.pinned (OpenSpec.upto fnGapSpec)

/-- 'laws.FnGapSquares', WHERE WHAT IT READS IS OF BULK AT MOST 1048576: true; the input reads as it did. -/
def fnGapSquaresUptoRow : OpenClaim := { program := "ytbcemgmfkddafaa", sum := "1da37cc45d958269da3d3e5a8fc808cbabfc4fab6ddb76285915286e92ebd1aa", func := "loop.example/tallyaudit/laws.FnGapSquares", spec := "fnGapSquares", unfollowed := true, recurses := true, apart := false, narrowed := true }
def FnGapSquaresUptoSaid : Prop := fnGapSquaresUptoRow.holds Try.pinned (OpenSpec.upto fnGapSquaresSpec)

/-- 'laws.FnGapRemainder', WHERE WHAT IT READS IS OF BULK AT MOST 1048576: true; the input reads as it did. -/
def fnGapRemainderUptoRow : OpenClaim := { program := "ytbcemgmfkddafaa", sum := "1da37cc45d958269da3d3e5a8fc808cbabfc4fab6ddb76285915286e92ebd1aa", func := "loop.example/tallyaudit/laws.FnGapRemainder", spec := "fnGapRemainder", unfollowed := true, recurses := true, apart := false, narrowed := true }
def FnGapRemainderUptoSaid : Prop := fnGapRemainderUptoRow.holds Try.pinned (OpenSpec.upto fnGapRemainderSpec)

/-- 'laws.FnSquaresRemainder', WHERE WHAT IT READS IS OF BULK AT MOST 1048576: true; the input reads as it did. -/
def fnSquaresRemainderUptoRow : OpenClaim := { program := "ytbcemgmfkddafaa", sum := "1da37cc45d958269da3d3e5a8fc808cbabfc4fab6ddb76285915286e92ebd1aa", func := "loop.example/tallyaudit/laws.FnSquaresRemainder", spec := "fnSquaresRemainder", unfollowed := true, recurses := true, apart := false, narrowed := true }
def FnSquaresRemainderUptoSaid : Prop := fnSquaresRemainderUptoRow.holds Try.pinned (OpenSpec.upto fnSquaresRemainderSpec)

/-- 'laws.FnHurdle', WHERE WHAT IT READS IS OF BULK AT MOST 1048576: true; the input reads as it did. -/
def fnHurdleUptoRow : OpenClaim := { program := "ytbcemgmfkddafaa", sum := "1da37cc45d958269da3d3e5a8fc808cbabfc4fab6ddb76285915286e92ebd1aa", func := "loop.example/tallyaudit/laws.FnHurdle", spec := "fnHurdle", apart := false, narrowed := true }
def FnHurdleUptoSaid : Prop := fnHurdleUptoRow.holds Try.pinned (OpenSpec.upto fnHurdleSpec)

/-- 'laws.FnHurdleMore', WHERE WHAT IT READS IS OF BULK AT MOST 1048576: true; the input reads as it did. -/
def fnHurdleMoreUptoRow : OpenClaim := { program := "ytbcemgmfkddafaa", sum := "1da37cc45d958269da3d3e5a8fc808cbabfc4fab6ddb76285915286e92ebd1aa", func := "loop.example/tallyaudit/laws.FnHurdleMore", spec := "fnHurdleMore", apart := false, narrowed := true }
def FnHurdleMoreUptoSaid : Prop := fnHurdleMoreUptoRow.holds Try.pinned (OpenSpec.upto fnHurdleMoreSpec)

/-- 'laws.FnParties', WHERE WHAT IT READS IS OF BULK AT MOST 1048576: true; the input reads as it did. -/
def fnPartiesUptoRow : OpenClaim := { program := "ytbcemgmfkddafaa", sum := "1da37cc45d958269da3d3e5a8fc808cbabfc4fab6ddb76285915286e92ebd1aa", func := "loop.example/tallyaudit/laws.FnParties", spec := "fnParties", unfollowed := true, recurses := true, apart := false, narrowed := true }
def FnPartiesUptoSaid : Prop := fnPartiesUptoRow.holds Try.pinned (OpenSpec.upto fnPartiesSpec)

/-- 'laws.FnPartiesScale', WHERE WHAT IT READS IS OF BULK AT MOST 1048576: true; the input reads as it did. -/
def fnPartiesScaleUptoRow : OpenClaim := { program := "ytbcemgmfkddafaa", sum := "1da37cc45d958269da3d3e5a8fc808cbabfc4fab6ddb76285915286e92ebd1aa", func := "loop.example/tallyaudit/laws.FnPartiesScale", spec := "fnPartiesScale", unfollowed := true, recurses := true, apart := false, narrowed := true }
def FnPartiesScaleUptoSaid : Prop := fnPartiesScaleUptoRow.holds Try.pinned (OpenSpec.upto fnPartiesScaleSpec)

/-- 'laws.FnExactShareGap', WHERE WHAT IT READS IS OF BULK AT MOST 1048576: true; the input reads as it did. -/
def fnExactShareGapUptoRow : OpenClaim := { program := "ytbcemgmfkddafaa", sum := "1da37cc45d958269da3d3e5a8fc808cbabfc4fab6ddb76285915286e92ebd1aa", func := "loop.example/tallyaudit/laws.FnExactShareGap", spec := "fnExactShareGap", unfollowed := true, recurses := true, apart := false, narrowed := true }
def FnExactShareGapUptoSaid : Prop := fnExactShareGapUptoRow.holds Try.pinned (OpenSpec.upto fnExactShareGapSpec)

/-- 'laws.FnExactShareSquares', WHERE WHAT IT READS IS OF BULK AT MOST 1048576: true; the input reads as it did. -/
def fnExactShareSquaresUptoRow : OpenClaim := { program := "ytbcemgmfkddafaa", sum := "1da37cc45d958269da3d3e5a8fc808cbabfc4fab6ddb76285915286e92ebd1aa", func := "loop.example/tallyaudit/laws.FnExactShareSquares", spec := "fnExactShareSquares", unfollowed := true, recurses := true, apart := false, narrowed := true }
def FnExactShareSquaresUptoSaid : Prop := fnExactShareSquaresUptoRow.holds Try.pinned (OpenSpec.upto fnExactShareSquaresSpec)

/-- 'laws.FnExactShareHurdle', WHERE WHAT IT READS IS OF BULK AT MOST 1048576: true; the input reads as it did. -/
def fnExactShareHurdleUptoRow : OpenClaim := { program := "ytbcemgmfkddafaa", sum := "1da37cc45d958269da3d3e5a8fc808cbabfc4fab6ddb76285915286e92ebd1aa", func := "loop.example/tallyaudit/laws.FnExactShareHurdle", spec := "fnExactShareHurdle", apart := false, narrowed := true }
def FnExactShareHurdleUptoSaid : Prop := fnExactShareHurdleUptoRow.holds Try.pinned (OpenSpec.upto fnExactShareHurdleSpec)

/-- 'laws.FnExactShareParties', WHERE WHAT IT READS IS OF BULK AT MOST 1048576: true; the input reads as it did. -/
def fnExactSharePartiesUptoRow : OpenClaim := { program := "ytbcemgmfkddafaa", sum := "1da37cc45d958269da3d3e5a8fc808cbabfc4fab6ddb76285915286e92ebd1aa", func := "loop.example/tallyaudit/laws.FnExactShareParties", spec := "fnExactShareParties", unfollowed := true, recurses := true, apart := false, narrowed := true }
def FnExactSharePartiesUptoSaid : Prop := fnExactSharePartiesUptoRow.holds Try.pinned (OpenSpec.upto fnExactSharePartiesSpec)

end Rows
end Go.Proofs.Ytbcemgmfkddafaa
