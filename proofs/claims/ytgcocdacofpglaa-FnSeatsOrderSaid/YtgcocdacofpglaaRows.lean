/-
  No cell of these rows narrows 'for every input' (looked for: loops, veiled, ifaces, maps, wideKeys, modest, calm, conditions, laid).
  DERIVED. THE GIVEN ROWS OF THIS SEAT. 6 by the template 'for every input the law returns true; each argument reads behind the call as it read before'; 0 by the template 'total and deterministic' (their statements: YtgcocdacofpglaaTotals.lean).
  GIVEN WITH THE SEED: the statements are not yours to turn. If you find one false, say at which input.
  Laid BY PROGRAM, IN A SANDBOX (cutbox-rows.mjs): the forced cells as the released guide's own fill.sh prints them over the translation 6147c43918f0249b… (all of the seat's roots in one cut). By AI agents, Wed Nov 11 2026. No macro, syntax, notation, axiom, sorry.
-/
import Derived.Test.YtgcocdacofpglaaChecked
import GoSem.Claim
import GoSem.ClaimJoined
import GoSem.ClaimMapViews
import Derived.JoinedTies
import Derived.KernelRfl
namespace Go.Proofs.Ytgcocdacofpglaa
/- THE CELL 'sum', in the pinned program and in every row, IS THE sha256 OF THE DUMP (.gsa) THAT YtgcocdacofpglaaProg.lean LOADS. Nothing in Lean hashes anything: it is a label: what it is worth is what the hold of that sum in a sandbox is worth. -/
noncomputable def Try.pinned : Pinned := { name := "ytgcocdacofpglaa", sum := "6147c43918f0249b610a414bd99e9348c7c0fb4e3bbeaa9f3b092bfe6b7a2f7b", checked := Try.checked }
namespace Rows
def none {H : Type} : Left H := { results := [], args := [] }

/-- 'laws.FnSeats': WHATEVER THE INPUT: true; the input reads as it did. -/
def fnSeatsSpec : ChangeSpec := { name := "fnSeats", fn := fun _ => fun
  | [d] => { results := [.lit (.bool true)], args := [d] }
  | _ => none }
def fnSeatsRow : OpenClaim := { program := "ytgcocdacofpglaa", sum := "6147c43918f0249b610a414bd99e9348c7c0fb4e3bbeaa9f3b092bfe6b7a2f7b", func := "loop.example/tallyaudit/laws.FnSeats", spec := "fnSeats", unfollowed := true, recurses := true, apart := false }
def FnSeatsSaid : Prop := fnSeatsRow.holds Try.pinned (OpenSpec.ofChange fnSeatsSpec)

/-- ITS FALSE NEIGHBOUR: 'it returns false'. Refute it at one input. -/
def fnSeatsWrong : ChangeSpec := { name := "fnSeats", fn := fun _ => fun
  | [d] => { results := [.lit (.bool false)], args := [d] }
  | _ => none }
def FnSeatsWrongFalsely : Prop := fnSeatsRow.holds Try.pinned (OpenSpec.ofChange fnSeatsWrong)

/-- 'laws.FnSeatsMore': WHATEVER THE INPUT: true; the input reads as it did. -/
def fnSeatsMoreSpec : ChangeSpec := { name := "fnSeatsMore", fn := fun _ => fun
  | [d] => { results := [.lit (.bool true)], args := [d] }
  | _ => none }
def fnSeatsMoreRow : OpenClaim := { program := "ytgcocdacofpglaa", sum := "6147c43918f0249b610a414bd99e9348c7c0fb4e3bbeaa9f3b092bfe6b7a2f7b", func := "loop.example/tallyaudit/laws.FnSeatsMore", spec := "fnSeatsMore", unfollowed := true, recurses := true, apart := false }
def FnSeatsMoreSaid : Prop := fnSeatsMoreRow.holds Try.pinned (OpenSpec.ofChange fnSeatsMoreSpec)

/-- ITS FALSE NEIGHBOUR: 'it returns false'. Refute it at one input. -/
def fnSeatsMoreWrong : ChangeSpec := { name := "fnSeatsMore", fn := fun _ => fun
  | [d] => { results := [.lit (.bool false)], args := [d] }
  | _ => none }
def FnSeatsMoreWrongFalsely : Prop := fnSeatsMoreRow.holds Try.pinned (OpenSpec.ofChange fnSeatsMoreWrong)

/-- 'laws.FnSeatsOrder': WHATEVER THE INPUT: true; the input reads as it did. -/
def fnSeatsOrderSpec : ChangeSpec := { name := "fnSeatsOrder", fn := fun _ => fun
  | [d] => { results := [.lit (.bool true)], args := [d] }
  | _ => none }
def fnSeatsOrderRow : OpenClaim := { program := "ytgcocdacofpglaa", sum := "6147c43918f0249b610a414bd99e9348c7c0fb4e3bbeaa9f3b092bfe6b7a2f7b", func := "loop.example/tallyaudit/laws.FnSeatsOrder", spec := "fnSeatsOrder", unfollowed := true, recurses := true, apart := false }
def FnSeatsOrderSaid : Prop := fnSeatsOrderRow.holds Try.pinned (OpenSpec.ofChange fnSeatsOrderSpec)

/-- ITS FALSE NEIGHBOUR: 'it returns false'. Refute it at one input. -/
def fnSeatsOrderWrong : ChangeSpec := { name := "fnSeatsOrder", fn := fun _ => fun
  | [d] => { results := [.lit (.bool false)], args := [d] }
  | _ => none }
def FnSeatsOrderWrongFalsely : Prop := fnSeatsOrderRow.holds Try.pinned (OpenSpec.ofChange fnSeatsOrderWrong)

/-- 'laws.FnSeatsScale': WHATEVER THE INPUT: true; the input reads as it did. -/
def fnSeatsScaleSpec : ChangeSpec := { name := "fnSeatsScale", fn := fun _ => fun
  | [d] => { results := [.lit (.bool true)], args := [d] }
  | _ => none }
def fnSeatsScaleRow : OpenClaim := { program := "ytgcocdacofpglaa", sum := "6147c43918f0249b610a414bd99e9348c7c0fb4e3bbeaa9f3b092bfe6b7a2f7b", func := "loop.example/tallyaudit/laws.FnSeatsScale", spec := "fnSeatsScale", unfollowed := true, recurses := true, apart := false }
def FnSeatsScaleSaid : Prop := fnSeatsScaleRow.holds Try.pinned (OpenSpec.ofChange fnSeatsScaleSpec)

/-- ITS FALSE NEIGHBOUR: 'it returns false'. Refute it at one input. -/
def fnSeatsScaleWrong : ChangeSpec := { name := "fnSeatsScale", fn := fun _ => fun
  | [d] => { results := [.lit (.bool false)], args := [d] }
  | _ => none }
def FnSeatsScaleWrongFalsely : Prop := fnSeatsScaleRow.holds Try.pinned (OpenSpec.ofChange fnSeatsScaleWrong)

/-- 'laws.FnSeatsFloor': WHATEVER THE INPUT: true; the input reads as it did. -/
def fnSeatsFloorSpec : ChangeSpec := { name := "fnSeatsFloor", fn := fun _ => fun
  | [d] => { results := [.lit (.bool true)], args := [d] }
  | _ => none }
def fnSeatsFloorRow : OpenClaim := { program := "ytgcocdacofpglaa", sum := "6147c43918f0249b610a414bd99e9348c7c0fb4e3bbeaa9f3b092bfe6b7a2f7b", func := "loop.example/tallyaudit/laws.FnSeatsFloor", spec := "fnSeatsFloor", unfollowed := true, recurses := true, apart := false }
def FnSeatsFloorSaid : Prop := fnSeatsFloorRow.holds Try.pinned (OpenSpec.ofChange fnSeatsFloorSpec)

/-- ITS FALSE NEIGHBOUR: 'it returns false'. Refute it at one input. -/
def fnSeatsFloorWrong : ChangeSpec := { name := "fnSeatsFloor", fn := fun _ => fun
  | [d] => { results := [.lit (.bool false)], args := [d] }
  | _ => none }
def FnSeatsFloorWrongFalsely : Prop := fnSeatsFloorRow.holds Try.pinned (OpenSpec.ofChange fnSeatsFloorWrong)

/-- 'laws.FnExactSeatsDivisor': WHATEVER THE INPUT: true; the input reads as it did. -/
def fnExactSeatsDivisorSpec : ChangeSpec := { name := "fnExactSeatsDivisor", fn := fun _ => fun
  | [d1, d2, d3, d4] => { results := [.lit (.bool true)], args := [d1, d2, d3, d4] }
  | _ => none }
def fnExactSeatsDivisorRow : OpenClaim := { program := "ytgcocdacofpglaa", sum := "6147c43918f0249b610a414bd99e9348c7c0fb4e3bbeaa9f3b092bfe6b7a2f7b", func := "loop.example/tallyaudit/laws.FnExactSeatsDivisor", spec := "fnExactSeatsDivisor", unfollowed := true, recurses := true, apart := false }
def FnExactSeatsDivisorSaid : Prop := fnExactSeatsDivisorRow.holds Try.pinned (OpenSpec.ofChange fnExactSeatsDivisorSpec)

/-- ITS FALSE NEIGHBOUR: 'it returns false'. Refute it at one input. -/
def fnExactSeatsDivisorWrong : ChangeSpec := { name := "fnExactSeatsDivisor", fn := fun _ => fun
  | [d1, d2, d3, d4] => { results := [.lit (.bool false)], args := [d1, d2, d3, d4] }
  | _ => none }
def FnExactSeatsDivisorWrongFalsely : Prop := fnExactSeatsDivisorRow.holds Try.pinned (OpenSpec.ofChange fnExactSeatsDivisorWrong)

/- THE SECOND FORM. 'bulk': how many values and letters a reading holds, each counted each time it is reached (what is shared counts as often as it is met; a slice's spare places count too). A statement '..UptoSaid' is the law's where the arguments, and the package variables that the reading takes, are together of bulk at most 1048576: NARROWER than '..Said'. Prove '..Said' where nothing that the law and all that it calls make is longer than what came in: it says more and counts as full. Else prove '..UptoSaid'. A law counts once. -/
mutual
def uptoBulk {H : Type} : DataW H → Nat
  | .lit (.string bytes) => bytes.length + 1
  | .lit _ => 1
  | .nil => 1
  | .ptr d => uptoBulk d + 1
  | .slice elems spare => uptoBulkAll elems + uptoBulkAll spare + 1
  | .agg parts => uptoBulkAll parts + 1
  | .iface _ d => uptoBulk d + 1
  | .map entries => uptoBulkEntries entries + 1
  | .held _ => 1
def uptoBulkAll {H : Type} : List (DataW H) → Nat
  | [] => 0
  | d :: r => uptoBulk d + uptoBulkAll r
def uptoBulkEntries {H : Type} : List (Lit × DataW H) → Nat
  | [] => 0
  | x :: r => uptoBulkEntry x + uptoBulkEntries r
def uptoBulkEntry {H : Type} : Lit × DataW H → Nat
  | (.string bytes, d) => bytes.length + uptoBulk d + 1
  | (_, d) => uptoBulk d + 1
 end
def uptoSmall : (H : Type) → List (DataW H) → Bool := fun _ ds => decide (uptoBulkAll ds ≤ 1048576)
def OpenSpec.upto (s : _root_.Go.ChangeSpec) : _root_.Go.OpenSpec := { _root_.Go.OpenSpec.ofChange s with cond := some uptoSmall }

/-- 'laws.FnSeats', WHERE WHAT IT READS IS OF BULK AT MOST 1048576: true; the input reads as it did. -/
def fnSeatsUptoRow : OpenClaim := { program := "ytgcocdacofpglaa", sum := "6147c43918f0249b610a414bd99e9348c7c0fb4e3bbeaa9f3b092bfe6b7a2f7b", func := "loop.example/tallyaudit/laws.FnSeats", spec := "fnSeats", unfollowed := true, recurses := true, apart := false, narrowed := true }
def FnSeatsUptoSaid : Prop := fnSeatsUptoRow.holds Try.pinned (OpenSpec.upto fnSeatsSpec)

/-- 'laws.FnSeatsMore', WHERE WHAT IT READS IS OF BULK AT MOST 1048576: true; the input reads as it did. -/
def fnSeatsMoreUptoRow : OpenClaim := { program := "ytgcocdacofpglaa", sum := "6147c43918f0249b610a414bd99e9348c7c0fb4e3bbeaa9f3b092bfe6b7a2f7b", func := "loop.example/tallyaudit/laws.FnSeatsMore", spec := "fnSeatsMore", unfollowed := true, recurses := true, apart := false, narrowed := true }
def FnSeatsMoreUptoSaid : Prop := fnSeatsMoreUptoRow.holds Try.pinned (OpenSpec.upto fnSeatsMoreSpec)

/-- 'laws.FnSeatsOrder', WHERE WHAT IT READS IS OF BULK AT MOST 1048576: true; the input reads as it did. -/
def fnSeatsOrderUptoRow : OpenClaim := { program := "ytgcocdacofpglaa", sum := "6147c43918f0249b610a414bd99e9348c7c0fb4e3bbeaa9f3b092bfe6b7a2f7b", func := "loop.example/tallyaudit/laws.FnSeatsOrder", spec := "fnSeatsOrder", unfollowed := true, recurses := true, apart := false, narrowed := true }
def FnSeatsOrderUptoSaid : Prop := fnSeatsOrderUptoRow.holds Try.pinned (OpenSpec.upto fnSeatsOrderSpec)

/-- 'laws.FnSeatsScale', WHERE WHAT IT READS IS OF BULK AT MOST 1048576: true; the input reads as it did. -/
def fnSeatsScaleUptoRow : OpenClaim := { program := "ytgcocdacofpglaa", sum := "6147c43918f0249b610a414bd99e9348c7c0fb4e3bbeaa9f3b092bfe6b7a2f7b", func := "loop.example/tallyaudit/laws.FnSeatsScale", spec := "fnSeatsScale", unfollowed := true, recurses := true, apart := false, narrowed := true }
def FnSeatsScaleUptoSaid : Prop := fnSeatsScaleUptoRow.holds Try.pinned (OpenSpec.upto fnSeatsScaleSpec)

/-- 'laws.FnSeatsFloor', WHERE WHAT IT READS IS OF BULK AT MOST 1048576: true; the input reads as it did. -/
def fnSeatsFloorUptoRow : OpenClaim := { program := "ytgcocdacofpglaa", sum := "6147c43918f0249b610a414bd99e9348c7c0fb4e3bbeaa9f3b092bfe6b7a2f7b", func := "loop.example/tallyaudit/laws.FnSeatsFloor", spec := "fnSeatsFloor", unfollowed := true, recurses := true, apart := false, narrowed := true }
def FnSeatsFloorUptoSaid : Prop := fnSeatsFloorUptoRow.holds Try.pinned (OpenSpec.upto fnSeatsFloorSpec)

/-- 'laws.FnExactSeatsDivisor', WHERE WHAT IT READS IS OF BULK AT MOST 1048576: true; the input reads as it did. -/
def fnExactSeatsDivisorUptoRow : OpenClaim := { program := "ytgcocdacofpglaa", sum := "6147c43918f0249b610a414bd99e9348c7c0fb4e3bbeaa9f3b092bfe6b7a2f7b", func := "loop.example/tallyaudit/laws.FnExactSeatsDivisor", spec := "fnExactSeatsDivisor", unfollowed := true, recurses := true, apart := false, narrowed := true }
def FnExactSeatsDivisorUptoSaid : Prop := fnExactSeatsDivisorUptoRow.holds Try.pinned (OpenSpec.upto fnExactSeatsDivisorSpec)

end Rows
end Go.Proofs.Ytgcocdacofpglaa
