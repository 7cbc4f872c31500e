/-
  No cell of these rows narrows 'for every input' (looked for: loops, veiled, ifaces, maps, wideKeys, modest, calm, conditions, laid).
  DERIVED. THE GIVEN ROWS OF THIS SEAT. 13 by the template 'for every input the law returns true; each argument reads behind the call as it read before'; 0 by the template 'total and deterministic' (their statements: YtoancpdiilofmaaTotals.lean).
  GIVEN WITH THE SEED: the statements are not yours to turn. If you find one false, say at which input.
  Laid BY PROGRAM, IN A SANDBOX (cutbox-rows.mjs): the forced cells as the released guide's own fill.sh prints them over the translation 85f4de0978ce604e… (all of the seat's roots in one cut). By AI agents, Wed Nov 11 2026. No macro, syntax, notation, axiom, sorry.
-/
import Derived.Test.YtoancpdiilofmaaChecked
import GoSem.Claim
import GoSem.ClaimJoined
import GoSem.ClaimMapViews
import Derived.JoinedTies
import Derived.KernelRfl
namespace Go.Proofs.Ytoancpdiilofmaa
/- THE CELL 'sum', in the pinned program and in every row, IS THE sha256 OF THE DUMP (.gsa) THAT YtoancpdiilofmaaProg.lean LOADS. Nothing in Lean hashes anything: it is a label: what it is worth is what the hold of that sum in a sandbox is worth. -/
noncomputable def Try.pinned : Pinned := { name := "ytoancpdiilofmaa", sum := "85f4de0978ce604e82f8c534d17f16c1f462cf20574b09edc88f74a861980f54", checked := Try.checked }
namespace Rows
def none {H : Type} : Left H := { results := [], args := [] }

/-- 'laws.FnFracOf': WHATEVER THE INPUT: true; the input reads as it did. -/
def fnFracOfSpec : ChangeSpec := { name := "fnFracOf", fn := fun _ => fun
  | [d] => { results := [.lit (.bool true)], args := [d] }
  | _ => none }
def fnFracOfRow : OpenClaim := { program := "ytoancpdiilofmaa", sum := "85f4de0978ce604e82f8c534d17f16c1f462cf20574b09edc88f74a861980f54", func := "loop.example/tallyaudit/laws.FnFracOf", spec := "fnFracOf", apart := false }
def FnFracOfSaid : Prop := fnFracOfRow.holds Try.pinned (OpenSpec.ofChange fnFracOfSpec)

/-- ITS FALSE NEIGHBOUR: 'it returns false'. Refute it at one input. -/
def fnFracOfWrong : ChangeSpec := { name := "fnFracOf", fn := fun _ => fun
  | [d] => { results := [.lit (.bool false)], args := [d] }
  | _ => none }
def FnFracOfWrongFalsely : Prop := fnFracOfRow.holds Try.pinned (OpenSpec.ofChange fnFracOfWrong)

/-- 'laws.FnFracAdd': WHATEVER THE INPUT: true; the input reads as it did. -/
def fnFracAddSpec : ChangeSpec := { name := "fnFracAdd", fn := fun _ => fun
  | [d] => { results := [.lit (.bool true)], args := [d] }
  | _ => none }
def fnFracAddRow : OpenClaim := { program := "ytoancpdiilofmaa", sum := "85f4de0978ce604e82f8c534d17f16c1f462cf20574b09edc88f74a861980f54", func := "loop.example/tallyaudit/laws.FnFracAdd", spec := "fnFracAdd", apart := false }
def FnFracAddSaid : Prop := fnFracAddRow.holds Try.pinned (OpenSpec.ofChange fnFracAddSpec)

/-- ITS FALSE NEIGHBOUR: 'it returns false'. Refute it at one input. -/
def fnFracAddWrong : ChangeSpec := { name := "fnFracAdd", fn := fun _ => fun
  | [d] => { results := [.lit (.bool false)], args := [d] }
  | _ => none }
def FnFracAddWrongFalsely : Prop := fnFracAddRow.holds Try.pinned (OpenSpec.ofChange fnFracAddWrong)

/-- 'laws.FnFracAddText': WHATEVER THE INPUT: true; the input reads as it did. -/
def fnFracAddTextSpec : ChangeSpec := { name := "fnFracAddText", fn := fun _ => fun
  | [d] => { results := [.lit (.bool true)], args := [d] }
  | _ => none }
def fnFracAddTextRow : OpenClaim := { program := "ytoancpdiilofmaa", sum := "85f4de0978ce604e82f8c534d17f16c1f462cf20574b09edc88f74a861980f54", func := "loop.example/tallyaudit/laws.FnFracAddText", spec := "fnFracAddText", apart := false }
def FnFracAddTextSaid : Prop := fnFracAddTextRow.holds Try.pinned (OpenSpec.ofChange fnFracAddTextSpec)

/-- ITS FALSE NEIGHBOUR: 'it returns false'. Refute it at one input. -/
def fnFracAddTextWrong : ChangeSpec := { name := "fnFracAddText", fn := fun _ => fun
  | [d] => { results := [.lit (.bool false)], args := [d] }
  | _ => none }
def FnFracAddTextWrongFalsely : Prop := fnFracAddTextRow.holds Try.pinned (OpenSpec.ofChange fnFracAddTextWrong)

/-- 'laws.FnFracTimes': WHATEVER THE INPUT: true; the input reads as it did. -/
def fnFracTimesSpec : ChangeSpec := { name := "fnFracTimes", fn := fun _ => fun
  | [d] => { results := [.lit (.bool true)], args := [d] }
  | _ => none }
def fnFracTimesRow : OpenClaim := { program := "ytoancpdiilofmaa", sum := "85f4de0978ce604e82f8c534d17f16c1f462cf20574b09edc88f74a861980f54", func := "loop.example/tallyaudit/laws.FnFracTimes", spec := "fnFracTimes", apart := false }
def FnFracTimesSaid : Prop := fnFracTimesRow.holds Try.pinned (OpenSpec.ofChange fnFracTimesSpec)

/-- ITS FALSE NEIGHBOUR: 'it returns false'. Refute it at one input. -/
def fnFracTimesWrong : ChangeSpec := { name := "fnFracTimes", fn := fun _ => fun
  | [d] => { results := [.lit (.bool false)], args := [d] }
  | _ => none }
def FnFracTimesWrongFalsely : Prop := fnFracTimesRow.holds Try.pinned (OpenSpec.ofChange fnFracTimesWrong)

/-- 'laws.FnFracTimesOver': WHATEVER THE INPUT: true; the input reads as it did. -/
def fnFracTimesOverSpec : ChangeSpec := { name := "fnFracTimesOver", fn := fun _ => fun
  | [d] => { results := [.lit (.bool true)], args := [d] }
  | _ => none }
def fnFracTimesOverRow : OpenClaim := { program := "ytoancpdiilofmaa", sum := "85f4de0978ce604e82f8c534d17f16c1f462cf20574b09edc88f74a861980f54", func := "loop.example/tallyaudit/laws.FnFracTimesOver", spec := "fnFracTimesOver", apart := false }
def FnFracTimesOverSaid : Prop := fnFracTimesOverRow.holds Try.pinned (OpenSpec.ofChange fnFracTimesOverSpec)

/-- ITS FALSE NEIGHBOUR: 'it returns false'. Refute it at one input. -/
def fnFracTimesOverWrong : ChangeSpec := { name := "fnFracTimesOver", fn := fun _ => fun
  | [d] => { results := [.lit (.bool false)], args := [d] }
  | _ => none }
def FnFracTimesOverWrongFalsely : Prop := fnFracTimesOverRow.holds Try.pinned (OpenSpec.ofChange fnFracTimesOverWrong)

/-- 'laws.FnFracLess': WHATEVER THE INPUT: true; the input reads as it did. -/
def fnFracLessSpec : ChangeSpec := { name := "fnFracLess", fn := fun _ => fun
  | [d] => { results := [.lit (.bool true)], args := [d] }
  | _ => none }
def fnFracLessRow : OpenClaim := { program := "ytoancpdiilofmaa", sum := "85f4de0978ce604e82f8c534d17f16c1f462cf20574b09edc88f74a861980f54", func := "loop.example/tallyaudit/laws.FnFracLess", spec := "fnFracLess", apart := false }
def FnFracLessSaid : Prop := fnFracLessRow.holds Try.pinned (OpenSpec.ofChange fnFracLessSpec)

/-- ITS FALSE NEIGHBOUR: 'it returns false'. Refute it at one input. -/
def fnFracLessWrong : ChangeSpec := { name := "fnFracLess", fn := fun _ => fun
  | [d] => { results := [.lit (.bool false)], args := [d] }
  | _ => none }
def FnFracLessWrongFalsely : Prop := fnFracLessRow.holds Try.pinned (OpenSpec.ofChange fnFracLessWrong)

/-- 'laws.FnFracLessAdd': WHATEVER THE INPUT: true; the input reads as it did. -/
def fnFracLessAddSpec : ChangeSpec := { name := "fnFracLessAdd", fn := fun _ => fun
  | [d] => { results := [.lit (.bool true)], args := [d] }
  | _ => none }
def fnFracLessAddRow : OpenClaim := { program := "ytoancpdiilofmaa", sum := "85f4de0978ce604e82f8c534d17f16c1f462cf20574b09edc88f74a861980f54", func := "loop.example/tallyaudit/laws.FnFracLessAdd", spec := "fnFracLessAdd", apart := false }
def FnFracLessAddSaid : Prop := fnFracLessAddRow.holds Try.pinned (OpenSpec.ofChange fnFracLessAddSpec)

/-- ITS FALSE NEIGHBOUR: 'it returns false'. Refute it at one input. -/
def fnFracLessAddWrong : ChangeSpec := { name := "fnFracLessAdd", fn := fun _ => fun
  | [d] => { results := [.lit (.bool false)], args := [d] }
  | _ => none }
def FnFracLessAddWrongFalsely : Prop := fnFracLessAddRow.holds Try.pinned (OpenSpec.ofChange fnFracLessAddWrong)

/-- 'laws.FnFracPart': WHATEVER THE INPUT: true; the input reads as it did. -/
def fnFracPartSpec : ChangeSpec := { name := "fnFracPart", fn := fun _ => fun
  | [d] => { results := [.lit (.bool true)], args := [d] }
  | _ => none }
def fnFracPartRow : OpenClaim := { program := "ytoancpdiilofmaa", sum := "85f4de0978ce604e82f8c534d17f16c1f462cf20574b09edc88f74a861980f54", func := "loop.example/tallyaudit/laws.FnFracPart", spec := "fnFracPart", apart := false }
def FnFracPartSaid : Prop := fnFracPartRow.holds Try.pinned (OpenSpec.ofChange fnFracPartSpec)

/-- ITS FALSE NEIGHBOUR: 'it returns false'. Refute it at one input. -/
def fnFracPartWrong : ChangeSpec := { name := "fnFracPart", fn := fun _ => fun
  | [d] => { results := [.lit (.bool false)], args := [d] }
  | _ => none }
def FnFracPartWrongFalsely : Prop := fnFracPartRow.holds Try.pinned (OpenSpec.ofChange fnFracPartWrong)

/-- 'laws.FnExactFracValid': WHATEVER THE INPUT: true; the input reads as it did. -/
def fnExactFracValidSpec : ChangeSpec := { name := "fnExactFracValid", fn := fun _ => fun
  | [d] => { results := [.lit (.bool true)], args := [d] }
  | _ => none }
def fnExactFracValidRow : OpenClaim := { program := "ytoancpdiilofmaa", sum := "85f4de0978ce604e82f8c534d17f16c1f462cf20574b09edc88f74a861980f54", func := "loop.example/tallyaudit/laws.FnExactFracValid", spec := "fnExactFracValid", apart := false }
def FnExactFracValidSaid : Prop := fnExactFracValidRow.holds Try.pinned (OpenSpec.ofChange fnExactFracValidSpec)

/-- ITS FALSE NEIGHBOUR: 'it returns false'. Refute it at one input. -/
def fnExactFracValidWrong : ChangeSpec := { name := "fnExactFracValid", fn := fun _ => fun
  | [d] => { results := [.lit (.bool false)], args := [d] }
  | _ => none }
def FnExactFracValidWrongFalsely : Prop := fnExactFracValidRow.holds Try.pinned (OpenSpec.ofChange fnExactFracValidWrong)

/-- 'laws.FnExactFracOf': WHATEVER THE INPUT: true; the input reads as it did. -/
def fnExactFracOfSpec : ChangeSpec := { name := "fnExactFracOf", fn := fun _ => fun
  | [d1, d2] => { results := [.lit (.bool true)], args := [d1, d2] }
  | _ => none }
def fnExactFracOfRow : OpenClaim := { program := "ytoancpdiilofmaa", sum := "85f4de0978ce604e82f8c534d17f16c1f462cf20574b09edc88f74a861980f54", func := "loop.example/tallyaudit/laws.FnExactFracOf", spec := "fnExactFracOf", apart := false }
def FnExactFracOfSaid : Prop := fnExactFracOfRow.holds Try.pinned (OpenSpec.ofChange fnExactFracOfSpec)

/-- ITS FALSE NEIGHBOUR: 'it returns false'. Refute it at one input. -/
def fnExactFracOfWrong : ChangeSpec := { name := "fnExactFracOf", fn := fun _ => fun
  | [d1, d2] => { results := [.lit (.bool false)], args := [d1, d2] }
  | _ => none }
def FnExactFracOfWrongFalsely : Prop := fnExactFracOfRow.holds Try.pinned (OpenSpec.ofChange fnExactFracOfWrong)

/-- 'laws.FnExactFracAdd': WHATEVER THE INPUT: true; the input reads as it did. -/
def fnExactFracAddSpec : ChangeSpec := { name := "fnExactFracAdd", fn := fun _ => fun
  | [d1, d2] => { results := [.lit (.bool true)], args := [d1, d2] }
  | _ => none }
def fnExactFracAddRow : OpenClaim := { program := "ytoancpdiilofmaa", sum := "85f4de0978ce604e82f8c534d17f16c1f462cf20574b09edc88f74a861980f54", func := "loop.example/tallyaudit/laws.FnExactFracAdd", spec := "fnExactFracAdd", apart := false }
def FnExactFracAddSaid : Prop := fnExactFracAddRow.holds Try.pinned (OpenSpec.ofChange fnExactFracAddSpec)

/-- ITS FALSE NEIGHBOUR: 'it returns false'. Refute it at one input. -/
def fnExactFracAddWrong : ChangeSpec := { name := "fnExactFracAdd", fn := fun _ => fun
  | [d1, d2] => { results := [.lit (.bool false)], args := [d1, d2] }
  | _ => none }
def FnExactFracAddWrongFalsely : Prop := fnExactFracAddRow.holds Try.pinned (OpenSpec.ofChange fnExactFracAddWrong)

/-- 'laws.FnExactFracTimes': WHATEVER THE INPUT: true; the input reads as it did. -/
def fnExactFracTimesSpec : ChangeSpec := { name := "fnExactFracTimes", fn := fun _ => fun
  | [d1, d2] => { results := [.lit (.bool true)], args := [d1, d2] }
  | _ => none }
def fnExactFracTimesRow : OpenClaim := { program := "ytoancpdiilofmaa", sum := "85f4de0978ce604e82f8c534d17f16c1f462cf20574b09edc88f74a861980f54", func := "loop.example/tallyaudit/laws.FnExactFracTimes", spec := "fnExactFracTimes", apart := false }
def FnExactFracTimesSaid : Prop := fnExactFracTimesRow.holds Try.pinned (OpenSpec.ofChange fnExactFracTimesSpec)

/-- ITS FALSE NEIGHBOUR: 'it returns false'. Refute it at one input. -/
def fnExactFracTimesWrong : ChangeSpec := { name := "fnExactFracTimes", fn := fun _ => fun
  | [d1, d2] => { results := [.lit (.bool false)], args := [d1, d2] }
  | _ => none }
def FnExactFracTimesWrongFalsely : Prop := fnExactFracTimesRow.holds Try.pinned (OpenSpec.ofChange fnExactFracTimesWrong)

/-- 'laws.FnExactFracLess': WHATEVER THE INPUT: true; the input reads as it did. -/
def fnExactFracLessSpec : ChangeSpec := { name := "fnExactFracLess", fn := fun _ => fun
  | [d1, d2] => { results := [.lit (.bool true)], args := [d1, d2] }
  | _ => none }
def fnExactFracLessRow : OpenClaim := { program := "ytoancpdiilofmaa", sum := "85f4de0978ce604e82f8c534d17f16c1f462cf20574b09edc88f74a861980f54", func := "loop.example/tallyaudit/laws.FnExactFracLess", spec := "fnExactFracLess", apart := false }
def FnExactFracLessSaid : Prop := fnExactFracLessRow.holds Try.pinned (OpenSpec.ofChange fnExactFracLessSpec)

/-- ITS FALSE NEIGHBOUR: 'it returns false'. Refute it at one input. -/
def fnExactFracLessWrong : ChangeSpec := { name := "fnExactFracLess", fn := fun _ => fun
  | [d1, d2] => { results := [.lit (.bool false)], args := [d1, d2] }
  | _ => none }
def FnExactFracLessWrongFalsely : Prop := fnExactFracLessRow.holds Try.pinned (OpenSpec.ofChange fnExactFracLessWrong)

/- THE SECOND FORM. 'bulk': how many values and letters a reading holds, each counted each time it is reached (what is shared counts as often as it is met; a slice's spare places count too). A statement '..UptoSaid' is the law's where the arguments, and the package variables that the reading takes, are together of bulk at most 1048576: NARROWER than '..Said'. Prove '..Said' where nothing that the law and all that it calls make is longer than what came in: it says more and counts as full. Else prove '..UptoSaid'. A law counts once. -/
mutual
def uptoBulk {H : Type} : DataW H → Nat
  | .lit (.string bytes) => bytes.length + 1
  | .lit _ => 1
  | .nil => 1
  | .ptr d => uptoBulk d + 1
  | .slice elems spare => uptoBulkAll elems + uptoBulkAll spare + 1
  | .agg parts => uptoBulkAll parts + 1
  | .iface _ d => uptoBulk d + 1
  | .map entries => uptoBulkEntries entries + 1
  | .held _ => 1
def uptoBulkAll {H : Type} : List (DataW H) → Nat
  | [] => 0
  | d :: r => uptoBulk d + uptoBulkAll r
def uptoBulkEntries {H : Type} : List (Lit × DataW H) → Nat
  | [] => 0
  | x :: r => uptoBulkEntry x + uptoBulkEntries r
def uptoBulkEntry {H : Type} : Lit × DataW H → Nat
  | (.string bytes, d) => bytes.length + uptoBulk d + 1
  | (_, d) => uptoBulk d + 1
 end
def uptoSmall : (H : Type) → List (DataW H) → Bool := fun _ ds => decide (uptoBulkAll ds ≤ 1048576)
def OpenSpec.upto (s : _root_.Go.ChangeSpec) : _root_.Go.OpenSpec := { _root_.Go.OpenSpec.ofChange s with cond := some uptoSmall }

/-- 'laws.FnFracOf', WHERE WHAT IT READS IS OF BULK AT MOST 1048576: true; the input reads as it did. -/
def fnFracOfUptoRow : OpenClaim := { program := "ytoancpdiilofmaa", sum := "85f4de0978ce604e82f8c534d17f16c1f462cf20574b09edc88f74a861980f54", func := "loop.example/tallyaudit/laws.FnFracOf", spec := "fnFracOf", apart := false, narrowed := true }
def FnFracOfUptoSaid : Prop := fnFracOfUptoRow.holds Try.pinned (OpenSpec.upto fnFracOfSpec)

/-- 'laws.FnFracAdd', WHERE WHAT IT READS IS OF BULK AT MOST 1048576: true; the input reads as it did. -/
def fnFracAddUptoRow : OpenClaim := { program := "ytoancpdiilofmaa", sum := "85f4de0978ce604e82f8c534d17f16c1f462cf20574b09edc88f74a861980f54", func := "loop.example/tallyaudit/laws.FnFracAdd", spec := "fnFracAdd", apart := false, narrowed := true }
def FnFracAddUptoSaid : Prop := fnFracAddUptoRow.holds Try.pinned (OpenSpec.upto fnFracAddSpec)

/-- 'laws.FnFracAddText', WHERE WHAT IT READS IS OF BULK AT MOST 1048576: true; the input reads as it did. -/
def fnFracAddTextUptoRow : OpenClaim := { program := "ytoancpdiilofmaa", sum := "85f4de0978ce604e82f8c534d17f16c1f462cf20574b09edc88f74a861980f54", func := "loop.example/tallyaudit/laws.FnFracAddText", spec := "fnFracAddText", apart := false, narrowed := true }
def FnFracAddTextUptoSaid : Prop := fnFracAddTextUptoRow.holds Try.pinned (OpenSpec.upto fnFracAddTextSpec)

/-- 'laws.FnFracTimes', WHERE WHAT IT READS IS OF BULK AT MOST 1048576: true; the input reads as it did. -/
def fnFracTimesUptoRow : OpenClaim := { program := "ytoancpdiilofmaa", sum := "85f4de0978ce604e82f8c534d17f16c1f462cf20574b09edc88f74a861980f54", func := "loop.example/tallyaudit/laws.FnFracTimes", spec := "fnFracTimes", apart := false, narrowed := true }
def FnFracTimesUptoSaid : Prop := fnFracTimesUptoRow.holds Try.pinned (OpenSpec.upto fnFracTimesSpec)

/-- 'laws.FnFracTimesOver', WHERE WHAT IT READS IS OF BULK AT MOST 1048576: true; the input reads as it did. -/
def fnFracTimesOverUptoRow : OpenClaim := { program := "ytoancpdiilofmaa", sum := "85f4de0978ce604e82f8c534d17f16c1f462cf20574b09edc88f74a861980f54", func := "loop.example/tallyaudit/laws.FnFracTimesOver", spec := "fnFracTimesOver", apart := false, narrowed := true }
def FnFracTimesOverUptoSaid : Prop := fnFracTimesOverUptoRow.holds Try.pinned (OpenSpec.upto fnFracTimesOverSpec)

/-- 'laws.FnFracLess', WHERE WHAT IT READS IS OF BULK AT MOST 1048576: true; the input reads as it did. -/
def fnFracLessUptoRow : OpenClaim := { program := "ytoancpdiilofmaa", sum := "85f4de0978ce604e82f8c534d17f16c1f462cf20574b09edc88f74a861980f54", func := "loop.example/tallyaudit/laws.FnFracLess", spec := "fnFracLess", apart := false, narrowed := true }
def FnFracLessUptoSaid : Prop := fnFracLessUptoRow.holds Try.pinned (OpenSpec.upto fnFracLessSpec)

/-- 'laws.FnFracLessAdd', WHERE WHAT IT READS IS OF BULK AT MOST 1048576: true; the input reads as it did. -/
def fnFracLessAddUptoRow : OpenClaim := { program := "ytoancpdiilofmaa", sum := "85f4de0978ce604e82f8c534d17f16c1f462cf20574b09edc88f74a861980f54", func := "loop.example/tallyaudit/laws.FnFracLessAdd", spec := "fnFracLessAdd", apart := false, narrowed := true }
def FnFracLessAddUptoSaid : Prop := fnFracLessAddUptoRow.holds Try.pinned (OpenSpec.upto fnFracLessAddSpec)

/-- 'laws.FnFracPart', WHERE WHAT IT READS IS OF BULK AT MOST 1048576: true; the input reads as it did. -/
def fnFracPartUptoRow : OpenClaim := { program := "ytoancpdiilofmaa", sum := "85f4de0978ce604e82f8c534d17f16c1f462cf20574b09edc88f74a861980f54", func := "loop.example/tallyaudit/laws.FnFracPart", spec := "fnFracPart", apart := false, narrowed := true }
def FnFracPartUptoSaid : Prop := fnFracPartUptoRow.holds Try.pinned (OpenSpec.upto fnFracPartSpec)

/-- 'laws.FnExactFracValid', WHERE WHAT IT READS IS OF BULK AT MOST 1048576: true; the input reads as it did. -/
def fnExactFracValidUptoRow : OpenClaim := { program := "ytoancpdiilofmaa", sum := "85f4de0978ce604e82f8c534d17f16c1f462cf20574b09edc88f74a861980f54", func := "loop.example/tallyaudit/laws.FnExactFracValid", spec := "fnExactFracValid", apart := false, narrowed := true }
def FnExactFracValidUptoSaid : Prop := fnExactFracValidUptoRow.holds Try.pinned (OpenSpec.upto fnExactFracValidSpec)

/-- 'laws.FnExactFracOf', WHERE WHAT IT READS IS OF BULK AT MOST 1048576: true; the input reads as it did. -/
def fnExactFracOfUptoRow : OpenClaim := { program := "ytoancpdiilofmaa", sum := "85f4de0978ce604e82f8c534d17f16c1f462cf20574b09edc88f74a861980f54", func := "loop.example/tallyaudit/laws.FnExactFracOf", spec := "fnExactFracOf", apart := false, narrowed := true }
def FnExactFracOfUptoSaid : Prop := fnExactFracOfUptoRow.holds Try.pinned (OpenSpec.upto fnExactFracOfSpec)

/-- 'laws.FnExactFracAdd', WHERE WHAT IT READS IS OF BULK AT MOST 1048576: true; the input reads as it did. -/
def fnExactFracAddUptoRow : OpenClaim := { program := "ytoancpdiilofmaa", sum := "85f4de0978ce604e82f8c534d17f16c1f462cf20574b09edc88f74a861980f54", func := "loop.example/tallyaudit/laws.FnExactFracAdd", spec := "fnExactFracAdd", apart := false, narrowed := true }
def FnExactFracAddUptoSaid : Prop := fnExactFracAddUptoRow.holds Try.pinned (OpenSpec.upto fnExactFracAddSpec)

/-- 'laws.FnExactFracTimes', WHERE WHAT IT READS IS OF BULK AT MOST 1048576: true; the input reads as it did. -/
def fnExactFracTimesUptoRow : OpenClaim := { program := "ytoancpdiilofmaa", sum := "85f4de0978ce604e82f8c534d17f16c1f462cf20574b09edc88f74a861980f54", func := "loop.example/tallyaudit/laws.FnExactFracTimes", spec := "fnExactFracTimes", apart := false, narrowed := true }
def FnExactFracTimesUptoSaid : Prop := fnExactFracTimesUptoRow.holds Try.pinned (OpenSpec.upto fnExactFracTimesSpec)

/-- 'laws.FnExactFracLess', WHERE WHAT IT READS IS OF BULK AT MOST 1048576: true; the input reads as it did. -/
def fnExactFracLessUptoRow : OpenClaim := { program := "ytoancpdiilofmaa", sum := "85f4de0978ce604e82f8c534d17f16c1f462cf20574b09edc88f74a861980f54", func := "loop.example/tallyaudit/laws.FnExactFracLess", spec := "fnExactFracLess", apart := false, narrowed := true }
def FnExactFracLessUptoSaid : Prop := fnExactFracLessUptoRow.holds Try.pinned (OpenSpec.upto fnExactFracLessSpec)

end Rows
end Go.Proofs.Ytoancpdiilofmaa
