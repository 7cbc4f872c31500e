/-
  No cell of these rows narrows 'for every input' (looked for: loops, veiled, ifaces, maps, wideKeys, modest, calm, conditions, laid).
  DERIVED. THE GIVEN ROWS OF THIS SEAT. 10 by the template 'for every input the law returns true; each argument reads behind the call as it read before'; 0 by the template 'total and deterministic' (their statements: YtapmmbngfklahaaTotals.lean).
  GIVEN WITH THE SEED: the statements are not yours to turn. If you find one false, say at which input.
  Laid BY PROGRAM, IN A SANDBOX (cutbox-rows.mjs): the forced cells as the released guide's own fill.sh prints them over the translation 955b6ff3260f720c… (all of the seat's roots in one cut). By AI agents, Wed Nov 11 2026. No macro, syntax, notation, axiom, sorry.
-/
import Derived.Test.YtapmmbngfklahaaChecked
import GoSem.Claim
import GoSem.ClaimJoined
import GoSem.ClaimMapViews
import Derived.JoinedTies
import Derived.KernelRfl
namespace Go.Proofs.Ytapmmbngfklahaa
/- THE CELL 'sum', in the pinned program and in every row, IS THE sha256 OF THE DUMP (.gsa) THAT YtapmmbngfklahaaProg.lean LOADS. Nothing in Lean hashes anything: it is a label: what it is worth is what the hold of that sum in a sandbox is worth. -/
noncomputable def Try.pinned : Pinned := { name := "ytapmmbngfklahaa", sum := "955b6ff3260f720c87e47059da3ff05e425b0bd005d7625ea8415f9a39940da0", checked := Try.checked }
namespace Rows
def none {H : Type} : Left H := { results := [], args := [] }

/-- 'laws.FnLots': WHATEVER THE INPUT: true; the input reads as it did. -/
def fnLotsSpec : ChangeSpec := { name := "fnLots", fn := fun _ => fun
  | [d] => { results := [.lit (.bool true)], args := [d] }
  | _ => none }
def fnLotsRow : OpenClaim := { program := "ytapmmbngfklahaa", sum := "955b6ff3260f720c87e47059da3ff05e425b0bd005d7625ea8415f9a39940da0", func := "loop.example/tallyaudit/laws.FnLots", spec := "fnLots", unfollowed := true, recurses := true, apart := false }
def FnLotsSaid : Prop := fnLotsRow.holds Try.pinned (OpenSpec.ofChange fnLotsSpec)

/-- ITS FALSE NEIGHBOUR: 'it returns false'. Refute it at one input. -/
def fnLotsWrong : ChangeSpec := { name := "fnLots", fn := fun _ => fun
  | [d] => { results := [.lit (.bool false)], args := [d] }
  | _ => none }
def FnLotsWrongFalsely : Prop := fnLotsRow.holds Try.pinned (OpenSpec.ofChange fnLotsWrong)

/-- 'laws.FnLotsMore': WHATEVER THE INPUT: true; the input reads as it did. -/
def fnLotsMoreSpec : ChangeSpec := { name := "fnLotsMore", fn := fun _ => fun
  | [d] => { results := [.lit (.bool true)], args := [d] }
  | _ => none }
def fnLotsMoreRow : OpenClaim := { program := "ytapmmbngfklahaa", sum := "955b6ff3260f720c87e47059da3ff05e425b0bd005d7625ea8415f9a39940da0", func := "loop.example/tallyaudit/laws.FnLotsMore", spec := "fnLotsMore", apart := false }
def FnLotsMoreSaid : Prop := fnLotsMoreRow.holds Try.pinned (OpenSpec.ofChange fnLotsMoreSpec)

/-- ITS FALSE NEIGHBOUR: 'it returns false'. Refute it at one input. -/
def fnLotsMoreWrong : ChangeSpec := { name := "fnLotsMore", fn := fun _ => fun
  | [d] => { results := [.lit (.bool false)], args := [d] }
  | _ => none }
def FnLotsMoreWrongFalsely : Prop := fnLotsMoreRow.holds Try.pinned (OpenSpec.ofChange fnLotsMoreWrong)

/-- 'laws.FnLotsAll': WHATEVER THE INPUT: true; the input reads as it did. -/
def fnLotsAllSpec : ChangeSpec := { name := "fnLotsAll", fn := fun _ => fun
  | [d] => { results := [.lit (.bool true)], args := [d] }
  | _ => none }
def fnLotsAllRow : OpenClaim := { program := "ytapmmbngfklahaa", sum := "955b6ff3260f720c87e47059da3ff05e425b0bd005d7625ea8415f9a39940da0", func := "loop.example/tallyaudit/laws.FnLotsAll", spec := "fnLotsAll", apart := false }
def FnLotsAllSaid : Prop := fnLotsAllRow.holds Try.pinned (OpenSpec.ofChange fnLotsAllSpec)

/-- ITS FALSE NEIGHBOUR: 'it returns false'. Refute it at one input. -/
def fnLotsAllWrong : ChangeSpec := { name := "fnLotsAll", fn := fun _ => fun
  | [d] => { results := [.lit (.bool false)], args := [d] }
  | _ => none }
def FnLotsAllWrongFalsely : Prop := fnLotsAllRow.holds Try.pinned (OpenSpec.ofChange fnLotsAllWrong)

/-- 'laws.FnLotsFirst': WHATEVER THE INPUT: true; the input reads as it did. -/
def fnLotsFirstSpec : ChangeSpec := { name := "fnLotsFirst", fn := fun _ => fun
  | [d] => { results := [.lit (.bool true)], args := [d] }
  | _ => none }
def fnLotsFirstRow : OpenClaim := { program := "ytapmmbngfklahaa", sum := "955b6ff3260f720c87e47059da3ff05e425b0bd005d7625ea8415f9a39940da0", func := "loop.example/tallyaudit/laws.FnLotsFirst", spec := "fnLotsFirst", unfollowed := true, recurses := true, apart := false }
def FnLotsFirstSaid : Prop := fnLotsFirstRow.holds Try.pinned (OpenSpec.ofChange fnLotsFirstSpec)

/-- ITS FALSE NEIGHBOUR: 'it returns false'. Refute it at one input. -/
def fnLotsFirstWrong : ChangeSpec := { name := "fnLotsFirst", fn := fun _ => fun
  | [d] => { results := [.lit (.bool false)], args := [d] }
  | _ => none }
def FnLotsFirstWrongFalsely : Prop := fnLotsFirstRow.holds Try.pinned (OpenSpec.ofChange fnLotsFirstWrong)

/-- 'laws.FnLotsPart': WHATEVER THE INPUT: true; the input reads as it did. -/
def fnLotsPartSpec : ChangeSpec := { name := "fnLotsPart", fn := fun _ => fun
  | [d] => { results := [.lit (.bool true)], args := [d] }
  | _ => none }
def fnLotsPartRow : OpenClaim := { program := "ytapmmbngfklahaa", sum := "955b6ff3260f720c87e47059da3ff05e425b0bd005d7625ea8415f9a39940da0", func := "loop.example/tallyaudit/laws.FnLotsPart", spec := "fnLotsPart", unfollowed := true, recurses := true, apart := false }
def FnLotsPartSaid : Prop := fnLotsPartRow.holds Try.pinned (OpenSpec.ofChange fnLotsPartSpec)

/-- ITS FALSE NEIGHBOUR: 'it returns false'. Refute it at one input. -/
def fnLotsPartWrong : ChangeSpec := { name := "fnLotsPart", fn := fun _ => fun
  | [d] => { results := [.lit (.bool false)], args := [d] }
  | _ => none }
def FnLotsPartWrongFalsely : Prop := fnLotsPartRow.holds Try.pinned (OpenSpec.ofChange fnLotsPartWrong)

/-- 'laws.FnLotsSeal': WHATEVER THE INPUT: true; the input reads as it did. -/
def fnLotsSealSpec : ChangeSpec := { name := "fnLotsSeal", fn := fun _ => fun
  | [d1, d2] => { results := [.lit (.bool true)], args := [d1, d2] }
  | _ => none }
def fnLotsSealRow : OpenClaim := { program := "ytapmmbngfklahaa", sum := "955b6ff3260f720c87e47059da3ff05e425b0bd005d7625ea8415f9a39940da0", func := "loop.example/tallyaudit/laws.FnLotsSeal", spec := "fnLotsSeal", apart := false }
def FnLotsSealSaid : Prop := fnLotsSealRow.holds Try.pinned (OpenSpec.ofChange fnLotsSealSpec)

/-- ITS FALSE NEIGHBOUR: 'it returns false'. Refute it at one input. -/
def fnLotsSealWrong : ChangeSpec := { name := "fnLotsSeal", fn := fun _ => fun
  | [d1, d2] => { results := [.lit (.bool false)], args := [d1, d2] }
  | _ => none }
def FnLotsSealWrongFalsely : Prop := fnLotsSealRow.holds Try.pinned (OpenSpec.ofChange fnLotsSealWrong)

/-- 'laws.FnExactLotsValid': WHATEVER THE INPUT: true; the input reads as it did. -/
def fnExactLotsValidSpec : ChangeSpec := { name := "fnExactLotsValid", fn := fun _ => fun
  | [d] => { results := [.lit (.bool true)], args := [d] }
  | _ => none }
def fnExactLotsValidRow : OpenClaim := { program := "ytapmmbngfklahaa", sum := "955b6ff3260f720c87e47059da3ff05e425b0bd005d7625ea8415f9a39940da0", func := "loop.example/tallyaudit/laws.FnExactLotsValid", spec := "fnExactLotsValid", unfollowed := true, recurses := true, apart := false }
def FnExactLotsValidSaid : Prop := fnExactLotsValidRow.holds Try.pinned (OpenSpec.ofChange fnExactLotsValidSpec)

/-- ITS FALSE NEIGHBOUR: 'it returns false'. Refute it at one input. -/
def fnExactLotsValidWrong : ChangeSpec := { name := "fnExactLotsValid", fn := fun _ => fun
  | [d] => { results := [.lit (.bool false)], args := [d] }
  | _ => none }
def FnExactLotsValidWrongFalsely : Prop := fnExactLotsValidRow.holds Try.pinned (OpenSpec.ofChange fnExactLotsValidWrong)

/-- 'laws.FnExactLotsOf': WHATEVER THE INPUT: true; the input reads as it did. -/
def fnExactLotsOfSpec : ChangeSpec := { name := "fnExactLotsOf", fn := fun _ => fun
  | [d1, d2] => { results := [.lit (.bool true)], args := [d1, d2] }
  | _ => none }
def fnExactLotsOfRow : OpenClaim := { program := "ytapmmbngfklahaa", sum := "955b6ff3260f720c87e47059da3ff05e425b0bd005d7625ea8415f9a39940da0", func := "loop.example/tallyaudit/laws.FnExactLotsOf", spec := "fnExactLotsOf", apart := false }
def FnExactLotsOfSaid : Prop := fnExactLotsOfRow.holds Try.pinned (OpenSpec.ofChange fnExactLotsOfSpec)

/-- ITS FALSE NEIGHBOUR: 'it returns false'. Refute it at one input. -/
def fnExactLotsOfWrong : ChangeSpec := { name := "fnExactLotsOf", fn := fun _ => fun
  | [d1, d2] => { results := [.lit (.bool false)], args := [d1, d2] }
  | _ => none }
def FnExactLotsOfWrongFalsely : Prop := fnExactLotsOfRow.holds Try.pinned (OpenSpec.ofChange fnExactLotsOfWrong)

/-- 'laws.FnExactLotsFirst': WHATEVER THE INPUT: true; the input reads as it did. -/
def fnExactLotsFirstSpec : ChangeSpec := { name := "fnExactLotsFirst", fn := fun _ => fun
  | [d1, d2] => { results := [.lit (.bool true)], args := [d1, d2] }
  | _ => none }
def fnExactLotsFirstRow : OpenClaim := { program := "ytapmmbngfklahaa", sum := "955b6ff3260f720c87e47059da3ff05e425b0bd005d7625ea8415f9a39940da0", func := "loop.example/tallyaudit/laws.FnExactLotsFirst", spec := "fnExactLotsFirst", unfollowed := true, recurses := true, apart := false }
def FnExactLotsFirstSaid : Prop := fnExactLotsFirstRow.holds Try.pinned (OpenSpec.ofChange fnExactLotsFirstSpec)

/-- ITS FALSE NEIGHBOUR: 'it returns false'. Refute it at one input. -/
def fnExactLotsFirstWrong : ChangeSpec := { name := "fnExactLotsFirst", fn := fun _ => fun
  | [d1, d2] => { results := [.lit (.bool false)], args := [d1, d2] }
  | _ => none }
def FnExactLotsFirstWrongFalsely : Prop := fnExactLotsFirstRow.holds Try.pinned (OpenSpec.ofChange fnExactLotsFirstWrong)

/-- 'laws.FnExactLotsSeal': WHATEVER THE INPUT: true; the input reads as it did. -/
def fnExactLotsSealSpec : ChangeSpec := { name := "fnExactLotsSeal", fn := fun _ => fun
  | [d1, d2] => { results := [.lit (.bool true)], args := [d1, d2] }
  | _ => none }
def fnExactLotsSealRow : OpenClaim := { program := "ytapmmbngfklahaa", sum := "955b6ff3260f720c87e47059da3ff05e425b0bd005d7625ea8415f9a39940da0", func := "loop.example/tallyaudit/laws.FnExactLotsSeal", spec := "fnExactLotsSeal", apart := false }
def FnExactLotsSealSaid : Prop := fnExactLotsSealRow.holds Try.pinned (OpenSpec.ofChange fnExactLotsSealSpec)

/-- ITS FALSE NEIGHBOUR: 'it returns false'. Refute it at one input. -/
def fnExactLotsSealWrong : ChangeSpec := { name := "fnExactLotsSeal", fn := fun _ => fun
  | [d1, d2] => { results := [.lit (.bool false)], args := [d1, d2] }
  | _ => none }
def FnExactLotsSealWrongFalsely : Prop := fnExactLotsSealRow.holds Try.pinned (OpenSpec.ofChange fnExactLotsSealWrong)

/- THE SECOND FORM. 'bulk': how many values and letters a reading holds, each counted each time it is reached (what is shared counts as often as it is met; a slice's spare places count too). A statement '..UptoSaid' is the law's where the arguments, and the package variables that the reading takes, are together of bulk at most 1048576: NARROWER than '..Said'. Prove '..Said' where nothing that the law and all that it calls make is longer than what came in: it says more and counts as full. Else prove '..UptoSaid'. A law counts once. -/
mutual
def uptoBulk {H : Type} : DataW H → Nat
  | .lit (.string bytes) => bytes.length + 1
  | .lit _ => 1
  | .nil => 1
  | .ptr d => uptoBulk d + 1
  | .slice elems spare => uptoBulkAll elems + uptoBulkAll spare + 1
  | .agg parts => uptoBulkAll parts + 1
  | .iface _ d => uptoBulk d + 1
  | .map entries => uptoBulkEntries entries + 1
  | .held _ => 1
def uptoBulkAll {H : Type} : List (DataW H) → Nat
  | [] => 0
  | d :: r => uptoBulk d + uptoBulkAll r
def uptoBulkEntries {H : Type} : List (Lit × DataW H) → Nat
  | [] => 0
  | x :: r => uptoBulkEntry x + uptoBulkEntries r
def uptoBulkEntry {H : Type} : Lit × DataW H → Nat
  | (.string bytes, d) => bytes.length + uptoBulk d + 1
  | (_, d) => uptoBulk d + 1
 end
def uptoSmall : (H : Type) → List (DataW H) → Bool := fun _ ds => decide (uptoBulkAll ds ≤ 1048576)
def OpenSpec.upto (s : _root_.Go.ChangeSpec) : _root_.Go.OpenSpec := { _root_.Go.OpenSpec.ofChange s with cond := some uptoSmall }

/-- 'laws.FnLots', WHERE WHAT IT READS IS OF BULK AT MOST 1048576: true; the input reads as it did. -/
def fnLotsUptoRow : OpenClaim := { program := "ytapmmbngfklahaa", sum := "955b6ff3260f720c87e47059da3ff05e425b0bd005d7625ea8415f9a39940da0", func := "loop.example/tallyaudit/laws.FnLots", spec := "fnLots", unfollowed := true, recurses := true, apart := false, narrowed := true }
def FnLotsUptoSaid : Prop := fnLotsUptoRow.holds Try.pinned (OpenSpec.upto fnLotsSpec)

/-- 'laws.FnLotsMore', WHERE WHAT IT READS IS OF BULK AT MOST 1048576: true; the input reads as it did. -/
def fnLotsMoreUptoRow : OpenClaim := { program := "ytapmmbngfklahaa", sum := "955b6ff3260f720c87e47059da3ff05e425b0bd005d7625ea8415f9a39940da0", func := "loop.example/tallyaudit/laws.FnLotsMore", spec := "fnLotsMore", apart := false, narrowed := true }
def FnLotsMoreUptoSaid : Prop := fnLotsMoreUptoRow.holds Try.pinned (OpenSpec.upto fnLotsMoreSpec)

/-- 'laws.FnLotsAll', WHERE WHAT IT READS IS OF BULK AT MOST 1048576: true; the input reads as it did. -/
def fnLotsAllUptoRow : OpenClaim := { program := "ytapmmbngfklahaa", sum := "955b6ff3260f720c87e47059da3ff05e425b0bd005d7625ea8415f9a39940da0", func := "loop.example/tallyaudit/laws.FnLotsAll", spec := "fnLotsAll", apart := false, narrowed := true }
def FnLotsAllUptoSaid : Prop := fnLotsAllUptoRow.holds Try.pinned (OpenSpec.upto fnLotsAllSpec)

/-- 'laws.FnLotsFirst', WHERE WHAT IT READS IS OF BULK AT MOST 1048576: true; the input reads as it did. -/
def fnLotsFirstUptoRow : OpenClaim := { program := "ytapmmbngfklahaa", sum := "955b6ff3260f720c87e47059da3ff05e425b0bd005d7625ea8415f9a39940da0", func := "loop.example/tallyaudit/laws.FnLotsFirst", spec := "fnLotsFirst", unfollowed := true, recurses := true, apart := false, narrowed := true }
def FnLotsFirstUptoSaid : Prop := fnLotsFirstUptoRow.holds Try.pinned (OpenSpec.upto fnLotsFirstSpec)

/-- 'laws.FnLotsPart', WHERE WHAT IT READS IS OF BULK AT MOST 1048576: true; the input reads as it did. -/
def fnLotsPartUptoRow : OpenClaim := { program := "ytapmmbngfklahaa", sum := "955b6ff3260f720c87e47059da3ff05e425b0bd005d7625ea8415f9a39940da0", func := "loop.example/tallyaudit/laws.FnLotsPart", spec := "fnLotsPart", unfollowed := true, recurses := true, apart := false, narrowed := true }
def FnLotsPartUptoSaid : Prop := fnLotsPartUptoRow.holds Try.pinned (OpenSpec.upto fnLotsPartSpec)

/-- 'laws.FnLotsSeal', WHERE WHAT IT READS IS OF BULK AT MOST 1048576: true; the input reads as it did. -/
def fnLotsSealUptoRow : OpenClaim := { program := "ytapmmbngfklahaa", sum := "955b6ff3260f720c87e47059da3ff05e425b0bd005d7625ea8415f9a39940da0", func := "loop.example/tallyaudit/laws.FnLotsSeal", spec := "fnLotsSeal", apart := false, narrowed := true }
def FnLotsSealUptoSaid : Prop := fnLotsSealUptoRow.holds Try.pinned (OpenSpec.upto fnLotsSealSpec)

/-- 'laws.FnExactLotsValid', WHERE WHAT IT READS IS OF BULK AT MOST 1048576: true; the input reads as it did. -/
def fnExactLotsValidUptoRow : OpenClaim := { program := "ytapmmbngfklahaa", sum := "955b6ff3260f720c87e47059da3ff05e425b0bd005d7625ea8415f9a39940da0", func := "loop.example/tallyaudit/laws.FnExactLotsValid", spec := "fnExactLotsValid", unfollowed := true, recurses := true, apart := false, narrowed := true }
def FnExactLotsValidUptoSaid : Prop := fnExactLotsValidUptoRow.holds Try.pinned (OpenSpec.upto fnExactLotsValidSpec)

/-- 'laws.FnExactLotsOf', WHERE WHAT IT READS IS OF BULK AT MOST 1048576: true; the input reads as it did. -/
def fnExactLotsOfUptoRow : OpenClaim := { program := "ytapmmbngfklahaa", sum := "955b6ff3260f720c87e47059da3ff05e425b0bd005d7625ea8415f9a39940da0", func := "loop.example/tallyaudit/laws.FnExactLotsOf", spec := "fnExactLotsOf", apart := false, narrowed := true }
def FnExactLotsOfUptoSaid : Prop := fnExactLotsOfUptoRow.holds Try.pinned (OpenSpec.upto fnExactLotsOfSpec)

/-- 'laws.FnExactLotsFirst', WHERE WHAT IT READS IS OF BULK AT MOST 1048576: true; the input reads as it did. -/
def fnExactLotsFirstUptoRow : OpenClaim := { program := "ytapmmbngfklahaa", sum := "955b6ff3260f720c87e47059da3ff05e425b0bd005d7625ea8415f9a39940da0", func := "loop.example/tallyaudit/laws.FnExactLotsFirst", spec := "fnExactLotsFirst", unfollowed := true, recurses := true, apart := false, narrowed := true }
def FnExactLotsFirstUptoSaid : Prop := fnExactLotsFirstUptoRow.holds Try.pinned (OpenSpec.upto fnExactLotsFirstSpec)

/-- 'laws.FnExactLotsSeal', WHERE WHAT IT READS IS OF BULK AT MOST 1048576: true; the input reads as it did. -/
def fnExactLotsSealUptoRow : OpenClaim := { program := "ytapmmbngfklahaa", sum := "955b6ff3260f720c87e47059da3ff05e425b0bd005d7625ea8415f9a39940da0", func := "loop.example/tallyaudit/laws.FnExactLotsSeal", spec := "fnExactLotsSeal", apart := false, narrowed := true }
def FnExactLotsSealUptoSaid : Prop := fnExactLotsSealUptoRow.holds Try.pinned (OpenSpec.upto fnExactLotsSealSpec)

end Rows
end Go.Proofs.Ytapmmbngfklahaa
