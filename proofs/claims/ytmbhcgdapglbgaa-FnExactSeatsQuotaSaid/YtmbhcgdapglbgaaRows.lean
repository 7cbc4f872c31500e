/-
  No cell of these rows narrows 'for every input' (looked for: loops, veiled, ifaces, maps, wideKeys, modest, calm, conditions, laid).
  DERIVED. THE GIVEN ROWS OF THIS SEAT. 10 by the template 'for every input the law returns true; each argument reads behind the call as it read before'; 0 by the template 'total and deterministic' (their statements: YtmbhcgdapglbgaaTotals.lean).
  GIVEN WITH THE SEED: the statements are not yours to turn. If you find one false, say at which input.
  Laid BY PROGRAM, IN A SANDBOX (cutbox-rows.mjs): the forced cells as the released guide's own fill.sh prints them over the translation be43a1517deffd3e… (all of the seat's roots in one cut). By AI agents, Wed Nov 11 2026. No macro, syntax, notation, axiom, sorry.
-/
import Derived.Test.YtmbhcgdapglbgaaChecked
import GoSem.Claim
import GoSem.ClaimJoined
import GoSem.ClaimMapViews
import Derived.JoinedTies
import Derived.KernelRfl
namespace Go.Proofs.Ytmbhcgdapglbgaa
/- THE CELL 'sum', in the pinned program and in every row, IS THE sha256 OF THE DUMP (.gsa) THAT YtmbhcgdapglbgaaProg.lean LOADS. Nothing in Lean hashes anything: it is a label: what it is worth is what the hold of that sum in a sandbox is worth. -/
noncomputable def Try.pinned : Pinned := { name := "ytmbhcgdapglbgaa", sum := "be43a1517deffd3ea5fcd39c8fa9dd31214e6498236918c5a228cd6834b64c15", checked := Try.checked }
namespace Rows
def none {H : Type} : Left H := { results := [], args := [] }

/-- 'laws.FnRemainder': WHATEVER THE INPUT: true; the input reads as it did. -/
def fnRemainderSpec : ChangeSpec := { name := "fnRemainder", fn := fun _ => fun
  | [d] => { results := [.lit (.bool true)], args := [d] }
  | _ => none }
def fnRemainderRow : OpenClaim := { program := "ytmbhcgdapglbgaa", sum := "be43a1517deffd3ea5fcd39c8fa9dd31214e6498236918c5a228cd6834b64c15", func := "loop.example/tallyaudit/laws.FnRemainder", spec := "fnRemainder", unfollowed := true, recurses := true, apart := false }
def FnRemainderSaid : Prop := fnRemainderRow.holds Try.pinned (OpenSpec.ofChange fnRemainderSpec)

/-- ITS FALSE NEIGHBOUR: 'it returns false'. Refute it at one input. -/
def fnRemainderWrong : ChangeSpec := { name := "fnRemainder", fn := fun _ => fun
  | [d] => { results := [.lit (.bool false)], args := [d] }
  | _ => none }
def FnRemainderWrongFalsely : Prop := fnRemainderRow.holds Try.pinned (OpenSpec.ofChange fnRemainderWrong)

/-- 'laws.FnRemainderOrder': WHATEVER THE INPUT: true; the input reads as it did. -/
def fnRemainderOrderSpec : ChangeSpec := { name := "fnRemainderOrder", fn := fun _ => fun
  | [d] => { results := [.lit (.bool true)], args := [d] }
  | _ => none }
def fnRemainderOrderRow : OpenClaim := { program := "ytmbhcgdapglbgaa", sum := "be43a1517deffd3ea5fcd39c8fa9dd31214e6498236918c5a228cd6834b64c15", func := "loop.example/tallyaudit/laws.FnRemainderOrder", spec := "fnRemainderOrder", unfollowed := true, recurses := true, apart := false }
def FnRemainderOrderSaid : Prop := fnRemainderOrderRow.holds Try.pinned (OpenSpec.ofChange fnRemainderOrderSpec)

/-- ITS FALSE NEIGHBOUR: 'it returns false'. Refute it at one input. -/
def fnRemainderOrderWrong : ChangeSpec := { name := "fnRemainderOrder", fn := fun _ => fun
  | [d] => { results := [.lit (.bool false)], args := [d] }
  | _ => none }
def FnRemainderOrderWrongFalsely : Prop := fnRemainderOrderRow.holds Try.pinned (OpenSpec.ofChange fnRemainderOrderWrong)

/-- 'laws.FnRemainderVotes': WHATEVER THE INPUT: true; the input reads as it did. -/
def fnRemainderVotesSpec : ChangeSpec := { name := "fnRemainderVotes", fn := fun _ => fun
  | [d] => { results := [.lit (.bool true)], args := [d] }
  | _ => none }
def fnRemainderVotesRow : OpenClaim := { program := "ytmbhcgdapglbgaa", sum := "be43a1517deffd3ea5fcd39c8fa9dd31214e6498236918c5a228cd6834b64c15", func := "loop.example/tallyaudit/laws.FnRemainderVotes", spec := "fnRemainderVotes", unfollowed := true, recurses := true, apart := false }
def FnRemainderVotesSaid : Prop := fnRemainderVotesRow.holds Try.pinned (OpenSpec.ofChange fnRemainderVotesSpec)

/-- ITS FALSE NEIGHBOUR: 'it returns false'. Refute it at one input. -/
def fnRemainderVotesWrong : ChangeSpec := { name := "fnRemainderVotes", fn := fun _ => fun
  | [d] => { results := [.lit (.bool false)], args := [d] }
  | _ => none }
def FnRemainderVotesWrongFalsely : Prop := fnRemainderVotesRow.holds Try.pinned (OpenSpec.ofChange fnRemainderVotesWrong)

/-- 'laws.FnRemainderExact': WHATEVER THE INPUT: true; the input reads as it did. -/
def fnRemainderExactSpec : ChangeSpec := { name := "fnRemainderExact", fn := fun _ => fun
  | [d] => { results := [.lit (.bool true)], args := [d] }
  | _ => none }
def fnRemainderExactRow : OpenClaim := { program := "ytmbhcgdapglbgaa", sum := "be43a1517deffd3ea5fcd39c8fa9dd31214e6498236918c5a228cd6834b64c15", func := "loop.example/tallyaudit/laws.FnRemainderExact", spec := "fnRemainderExact", unfollowed := true, recurses := true, apart := false }
def FnRemainderExactSaid : Prop := fnRemainderExactRow.holds Try.pinned (OpenSpec.ofChange fnRemainderExactSpec)

/-- ITS FALSE NEIGHBOUR: 'it returns false'. Refute it at one input. -/
def fnRemainderExactWrong : ChangeSpec := { name := "fnRemainderExact", fn := fun _ => fun
  | [d] => { results := [.lit (.bool false)], args := [d] }
  | _ => none }
def FnRemainderExactWrongFalsely : Prop := fnRemainderExactRow.holds Try.pinned (OpenSpec.ofChange fnRemainderExactWrong)

/-- 'laws.FnQuota': WHATEVER THE INPUT: true; the input reads as it did. -/
def fnQuotaSpec : ChangeSpec := { name := "fnQuota", fn := fun _ => fun
  | [d] => { results := [.lit (.bool true)], args := [d] }
  | _ => none }
def fnQuotaRow : OpenClaim := { program := "ytmbhcgdapglbgaa", sum := "be43a1517deffd3ea5fcd39c8fa9dd31214e6498236918c5a228cd6834b64c15", func := "loop.example/tallyaudit/laws.FnQuota", spec := "fnQuota", apart := false }
def FnQuotaSaid : Prop := fnQuotaRow.holds Try.pinned (OpenSpec.ofChange fnQuotaSpec)

/-- ITS FALSE NEIGHBOUR: 'it returns false'. Refute it at one input. -/
def fnQuotaWrong : ChangeSpec := { name := "fnQuota", fn := fun _ => fun
  | [d] => { results := [.lit (.bool false)], args := [d] }
  | _ => none }
def FnQuotaWrongFalsely : Prop := fnQuotaRow.holds Try.pinned (OpenSpec.ofChange fnQuotaWrong)

/-- 'laws.FnQuotaSum': WHATEVER THE INPUT: true; the input reads as it did. -/
def fnQuotaSumSpec : ChangeSpec := { name := "fnQuotaSum", fn := fun _ => fun
  | [d] => { results := [.lit (.bool true)], args := [d] }
  | _ => none }
def fnQuotaSumRow : OpenClaim := { program := "ytmbhcgdapglbgaa", sum := "be43a1517deffd3ea5fcd39c8fa9dd31214e6498236918c5a228cd6834b64c15", func := "loop.example/tallyaudit/laws.FnQuotaSum", spec := "fnQuotaSum", apart := false }
def FnQuotaSumSaid : Prop := fnQuotaSumRow.holds Try.pinned (OpenSpec.ofChange fnQuotaSumSpec)

/-- ITS FALSE NEIGHBOUR: 'it returns false'. Refute it at one input. -/
def fnQuotaSumWrong : ChangeSpec := { name := "fnQuotaSum", fn := fun _ => fun
  | [d] => { results := [.lit (.bool false)], args := [d] }
  | _ => none }
def FnQuotaSumWrongFalsely : Prop := fnQuotaSumRow.holds Try.pinned (OpenSpec.ofChange fnQuotaSumWrong)

/-- 'laws.FnFair': WHATEVER THE INPUT: true; the input reads as it did. -/
def fnFairSpec : ChangeSpec := { name := "fnFair", fn := fun _ => fun
  | [d] => { results := [.lit (.bool true)], args := [d] }
  | _ => none }
def fnFairRow : OpenClaim := { program := "ytmbhcgdapglbgaa", sum := "be43a1517deffd3ea5fcd39c8fa9dd31214e6498236918c5a228cd6834b64c15", func := "loop.example/tallyaudit/laws.FnFair", spec := "fnFair", apart := false }
def FnFairSaid : Prop := fnFairRow.holds Try.pinned (OpenSpec.ofChange fnFairSpec)

/-- ITS FALSE NEIGHBOUR: 'it returns false'. Refute it at one input. -/
def fnFairWrong : ChangeSpec := { name := "fnFair", fn := fun _ => fun
  | [d] => { results := [.lit (.bool false)], args := [d] }
  | _ => none }
def FnFairWrongFalsely : Prop := fnFairRow.holds Try.pinned (OpenSpec.ofChange fnFairWrong)

/-- 'laws.FnExactSeatsRemainder': WHATEVER THE INPUT: true; the input reads as it did. -/
def fnExactSeatsRemainderSpec : ChangeSpec := { name := "fnExactSeatsRemainder", fn := fun _ => fun
  | [d1, d2, d3] => { results := [.lit (.bool true)], args := [d1, d2, d3] }
  | _ => none }
def fnExactSeatsRemainderRow : OpenClaim := { program := "ytmbhcgdapglbgaa", sum := "be43a1517deffd3ea5fcd39c8fa9dd31214e6498236918c5a228cd6834b64c15", func := "loop.example/tallyaudit/laws.FnExactSeatsRemainder", spec := "fnExactSeatsRemainder", unfollowed := true, recurses := true, apart := false }
def FnExactSeatsRemainderSaid : Prop := fnExactSeatsRemainderRow.holds Try.pinned (OpenSpec.ofChange fnExactSeatsRemainderSpec)

/-- ITS FALSE NEIGHBOUR: 'it returns false'. Refute it at one input. -/
def fnExactSeatsRemainderWrong : ChangeSpec := { name := "fnExactSeatsRemainder", fn := fun _ => fun
  | [d1, d2, d3] => { results := [.lit (.bool false)], args := [d1, d2, d3] }
  | _ => none }
def FnExactSeatsRemainderWrongFalsely : Prop := fnExactSeatsRemainderRow.holds Try.pinned (OpenSpec.ofChange fnExactSeatsRemainderWrong)

/-- 'laws.FnExactSeatsQuota': WHATEVER THE INPUT: true; the input reads as it did. -/
def fnExactSeatsQuotaSpec : ChangeSpec := { name := "fnExactSeatsQuota", fn := fun _ => fun
  | [d1, d2, d3] => { results := [.lit (.bool true)], args := [d1, d2, d3] }
  | _ => none }
def fnExactSeatsQuotaRow : OpenClaim := { program := "ytmbhcgdapglbgaa", sum := "be43a1517deffd3ea5fcd39c8fa9dd31214e6498236918c5a228cd6834b64c15", func := "loop.example/tallyaudit/laws.FnExactSeatsQuota", spec := "fnExactSeatsQuota", apart := false }
def FnExactSeatsQuotaSaid : Prop := fnExactSeatsQuotaRow.holds Try.pinned (OpenSpec.ofChange fnExactSeatsQuotaSpec)

/-- ITS FALSE NEIGHBOUR: 'it returns false'. Refute it at one input. -/
def fnExactSeatsQuotaWrong : ChangeSpec := { name := "fnExactSeatsQuota", fn := fun _ => fun
  | [d1, d2, d3] => { results := [.lit (.bool false)], args := [d1, d2, d3] }
  | _ => none }
def FnExactSeatsQuotaWrongFalsely : Prop := fnExactSeatsQuotaRow.holds Try.pinned (OpenSpec.ofChange fnExactSeatsQuotaWrong)

/-- 'laws.FnExactSeatsFair': WHATEVER THE INPUT: true; the input reads as it did. -/
def fnExactSeatsFairSpec : ChangeSpec := { name := "fnExactSeatsFair", fn := fun _ => fun
  | [d1, d2] => { results := [.lit (.bool true)], args := [d1, d2] }
  | _ => none }
def fnExactSeatsFairRow : OpenClaim := { program := "ytmbhcgdapglbgaa", sum := "be43a1517deffd3ea5fcd39c8fa9dd31214e6498236918c5a228cd6834b64c15", func := "loop.example/tallyaudit/laws.FnExactSeatsFair", spec := "fnExactSeatsFair", apart := false }
def FnExactSeatsFairSaid : Prop := fnExactSeatsFairRow.holds Try.pinned (OpenSpec.ofChange fnExactSeatsFairSpec)

/-- ITS FALSE NEIGHBOUR: 'it returns false'. Refute it at one input. -/
def fnExactSeatsFairWrong : ChangeSpec := { name := "fnExactSeatsFair", fn := fun _ => fun
  | [d1, d2] => { results := [.lit (.bool false)], args := [d1, d2] }
  | _ => none }
def FnExactSeatsFairWrongFalsely : Prop := fnExactSeatsFairRow.holds Try.pinned (OpenSpec.ofChange fnExactSeatsFairWrong)

/- THE SECOND FORM. 'bulk': how many values and letters a reading holds, each counted each time it is reached (what is shared counts as often as it is met; a slice's spare places count too). A statement '..UptoSaid' is the law's where the arguments, and the package variables that the reading takes, are together of bulk at most 1048576: NARROWER than '..Said'. Prove '..Said' where nothing that the law and all that it calls make is longer than what came in: it says more and counts as full. Else prove '..UptoSaid'. A law counts once. -/
mutual
def uptoBulk {H : Type} : DataW H → Nat
  | .lit (.string bytes) => bytes.length + 1
  | .lit _ => 1
  | .nil => 1
  | .ptr d => uptoBulk d + 1
  | .slice elems spare => uptoBulkAll elems + uptoBulkAll spare + 1
  | .agg parts => uptoBulkAll parts + 1
  | .iface _ d => uptoBulk d + 1
  | .map entries => uptoBulkEntries entries + 1
  | .held _ => 1
def uptoBulkAll {H : Type} : List (DataW H) → Nat
  | [] => 0
  | d :: r => uptoBulk d + uptoBulkAll r
def uptoBulkEntries {H : Type} : List (Lit × DataW H) → Nat
  | [] => 0
  | x :: r => uptoBulkEntry x + uptoBulkEntries r
def uptoBulkEntry {H : Type} : Lit × DataW H → Nat
  | (.string bytes, d) => bytes.length + uptoBulk d + 1
  | (_, d) => uptoBulk d + 1
 end
def uptoSmall : (H : Type) → List (DataW H) → Bool := fun _ ds => decide (uptoBulkAll ds ≤ 1048576)
def OpenSpec.upto (s : _root_.Go.ChangeSpec) : _root_.Go.OpenSpec := { _root_.Go.OpenSpec.ofChange s with cond := some uptoSmall }

/-- 'laws.FnRemainder', WHERE WHAT IT READS IS OF BULK AT MOST 1048576: true; the input reads as it did. -/
def fnRemainderUptoRow : OpenClaim := { program := "ytmbhcgdapglbgaa", sum := "be43a1517deffd3ea5fcd39c8fa9dd31214e6498236918c5a228cd6834b64c15", func := "loop.example/tallyaudit/laws.FnRemainder", spec := "fnRemainder", unfollowed := true, recurses := true, apart := false, narrowed := true }
def FnRemainderUptoSaid : Prop := fnRemainderUptoRow.holds Try.pinned (OpenSpec.upto fnRemainderSpec)

/-- 'laws.FnRemainderOrder', WHERE WHAT IT READS IS OF BULK AT MOST 1048576: true; the input reads as it did. -/
def fnRemainderOrderUptoRow : OpenClaim := { program := "ytmbhcgdapglbgaa", sum := "be43a1517deffd3ea5fcd39c8fa9dd31214e6498236918c5a228cd6834b64c15", func := "loop.example/tallyaudit/laws.FnRemainderOrder", spec := "fnRemainderOrder", unfollowed := true, recurses := true, apart := false, narrowed := true }
def FnRemainderOrderUptoSaid : Prop := fnRemainderOrderUptoRow.holds Try.pinned (OpenSpec.upto fnRemainderOrderSpec)

/-- 'laws.FnRemainderVotes', WHERE WHAT IT READS IS OF BULK AT MOST 1048576: true; the input reads as it did. -/
def fnRemainderVotesUptoRow : OpenClaim := { program := "ytmbhcgdapglbgaa", sum := "be43a1517deffd3ea5fcd39c8fa9dd31214e6498236918c5a228cd6834b64c15", func := "loop.example/tallyaudit/laws.FnRemainderVotes", spec := "fnRemainderVotes", unfollowed := true, recurses := true, apart := false, narrowed := true }
def FnRemainderVotesUptoSaid : Prop := fnRemainderVotesUptoRow.holds Try.pinned (OpenSpec.upto fnRemainderVotesSpec)

/-- 'laws.FnRemainderExact', WHERE WHAT IT READS IS OF BULK AT MOST 1048576: true; the input reads as it did. -/
def fnRemainderExactUptoRow : OpenClaim := { program := "ytmbhcgdapglbgaa", sum := "be43a1517deffd3ea5fcd39c8fa9dd31214e6498236918c5a228cd6834b64c15", func := "loop.example/tallyaudit/laws.FnRemainderExact", spec := "fnRemainderExact", unfollowed := true, recurses := true, apart := false, narrowed := true }
def FnRemainderExactUptoSaid : Prop := fnRemainderExactUptoRow.holds Try.pinned (OpenSpec.upto fnRemainderExactSpec)

/-- 'laws.FnQuota', WHERE WHAT IT READS IS OF BULK AT MOST 1048576: true; the input reads as it did. -/
def fnQuotaUptoRow : OpenClaim := { program := "ytmbhcgdapglbgaa", sum := "be43a1517deffd3ea5fcd39c8fa9dd31214e6498236918c5a228cd6834b64c15", func := "loop.example/tallyaudit/laws.FnQuota", spec := "fnQuota", apart := false, narrowed := true }
def FnQuotaUptoSaid : Prop := fnQuotaUptoRow.holds Try.pinned (OpenSpec.upto fnQuotaSpec)

/-- 'laws.FnQuotaSum', WHERE WHAT IT READS IS OF BULK AT MOST 1048576: true; the input reads as it did. -/
def fnQuotaSumUptoRow : OpenClaim := { program := "ytmbhcgdapglbgaa", sum := "be43a1517deffd3ea5fcd39c8fa9dd31214e6498236918c5a228cd6834b64c15", func := "loop.example/tallyaudit/laws.FnQuotaSum", spec := "fnQuotaSum", apart := false, narrowed := true }
def FnQuotaSumUptoSaid : Prop := fnQuotaSumUptoRow.holds Try.pinned (OpenSpec.upto fnQuotaSumSpec)

/-- 'laws.FnFair', WHERE WHAT IT READS IS OF BULK AT MOST 1048576: true; the input reads as it did. -/
def fnFairUptoRow : OpenClaim := { program := "ytmbhcgdapglbgaa", sum := "be43a1517deffd3ea5fcd39c8fa9dd31214e6498236918c5a228cd6834b64c15", func := "loop.example/tallyaudit/laws.FnFair", spec := "fnFair", apart := false, narrowed := true }
def FnFairUptoSaid : Prop := fnFairUptoRow.holds Try.pinned (OpenSpec.upto fnFairSpec)

/-- 'laws.FnExactSeatsRemainder', WHERE WHAT IT READS IS OF BULK AT MOST 1048576: true; the input reads as it did. -/
def fnExactSeatsRemainderUptoRow : OpenClaim := { program := "ytmbhcgdapglbgaa", sum := "be43a1517deffd3ea5fcd39c8fa9dd31214e6498236918c5a228cd6834b64c15", func := "loop.example/tallyaudit/laws.FnExactSeatsRemainder", spec := "fnExactSeatsRemainder", unfollowed := true, recurses := true, apart := false, narrowed := true }
def FnExactSeatsRemainderUptoSaid : Prop := fnExactSeatsRemainderUptoRow.holds Try.pinned (OpenSpec.upto fnExactSeatsRemainderSpec)

/-- 'laws.FnExactSeatsQuota', WHERE WHAT IT READS IS OF BULK AT MOST 1048576: true; the input reads as it did. -/
def fnExactSeatsQuotaUptoRow : OpenClaim := { program := "ytmbhcgdapglbgaa", sum := "be43a1517deffd3ea5fcd39c8fa9dd31214e6498236918c5a228cd6834b64c15", func := "loop.example/tallyaudit/laws.FnExactSeatsQuota", spec := "fnExactSeatsQuota", apart := false, narrowed := true }
def FnExactSeatsQuotaUptoSaid : Prop := fnExactSeatsQuotaUptoRow.holds Try.pinned (OpenSpec.upto fnExactSeatsQuotaSpec)

/-- 'laws.FnExactSeatsFair', WHERE WHAT IT READS IS OF BULK AT MOST 1048576: true; the input reads as it did. -/
def fnExactSeatsFairUptoRow : OpenClaim := { program := "ytmbhcgdapglbgaa", sum := "be43a1517deffd3ea5fcd39c8fa9dd31214e6498236918c5a228cd6834b64c15", func := "loop.example/tallyaudit/laws.FnExactSeatsFair", spec := "fnExactSeatsFair", apart := false, narrowed := true }
def FnExactSeatsFairUptoSaid : Prop := fnExactSeatsFairUptoRow.holds Try.pinned (OpenSpec.upto fnExactSeatsFairSpec)

end Rows
end Go.Proofs.Ytmbhcgdapglbgaa
