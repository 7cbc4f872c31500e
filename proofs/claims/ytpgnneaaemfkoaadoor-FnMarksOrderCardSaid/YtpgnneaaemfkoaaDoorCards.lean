/-
  DERIVED. GIVEN WITH THE SEED: THE CARDS: each row of YtpgnneaaemfkoaaDoorRows.lean that lists a variable, with what it lists TIED to the program's text (the seventh form; the later family's looks); each row that meets fmt, with fmt's text TOLD by the authors' own Lean function (tested against real Go, not proved from fmt's source: count such statements apart). THE CARD IS WHAT COUNTS. Prove the row's statement (the work); the ties are given (YtpgnneaaemfkoaaDoorTie.lean); close each card by the builder's one call (the guide's Derived/Test/ToyasCard.lean, 'card_holds'). Laid BY PROGRAM, IN A SANDBOX (cutbox-door.mjs). By AI agents, Wed Nov 11 2026. No macro, syntax, notation, axiom, sorry.
-/
import Derived.Test.YtpgnneaaemfkoaaDoorRows
import GoSem.ClaimSeven
namespace Go.Proofs.YtpgnneaaemfkoaaDoor
namespace Rows

/-- THE TIED CARD OF 'laws.FnMarksOf'. -/
def fnMarksOfCard : Claim7 := { stood := { row := fnMarksOfRow, standIns := [], harness := (true, "c7cbe315be80a1540a9c071a66c754b883af9a8464c881be4332ab898a00eb17"), looks := false }, kinds := [], alts := [], laidByText := true, laidKinds := [.data, .data], laidTests := true, laidLooks := .later }
def FnMarksOfCardSaid : Prop := Claim7.holds Tryd.pinned (.plain (OpenSpec.ofChange fnMarksOfSpec)) fnMarksOfCard

/-- THE TIED CARD OF 'laws.FnMarksRead'. -/
def fnMarksReadCard : Claim7 := { stood := { row := fnMarksReadRow, standIns := [], harness := (true, "c7cbe315be80a1540a9c071a66c754b883af9a8464c881be4332ab898a00eb17"), looks := false }, kinds := [], alts := [], laidByText := true, laidKinds := [.data, .data], laidTests := true, laidLooks := .later }
def FnMarksReadCardSaid : Prop := Claim7.holds Tryd.pinned (.plain (OpenSpec.ofChange fnMarksReadSpec)) fnMarksReadCard

/-- THE TIED CARD OF 'laws.FnMarksEnd'. -/
def fnMarksEndCard : Claim7 := { stood := { row := fnMarksEndRow, standIns := [], harness := (true, "c7cbe315be80a1540a9c071a66c754b883af9a8464c881be4332ab898a00eb17"), looks := false }, kinds := [], alts := [], laidByText := true, laidKinds := [.data, .data], laidTests := true, laidLooks := .later }
def FnMarksEndCardSaid : Prop := Claim7.holds Tryd.pinned (.plain (OpenSpec.ofChange fnMarksEndSpec)) fnMarksEndCard

/-- THE TIED CARD OF 'laws.FnMarksOrder'. -/
def fnMarksOrderCard : Claim7 := { stood := { row := fnMarksOrderRow, standIns := [], harness := (true, "c7cbe315be80a1540a9c071a66c754b883af9a8464c881be4332ab898a00eb17"), looks := false }, kinds := [], alts := [], laidByText := true, laidKinds := [.data, .data], laidTests := true, laidLooks := .later }
def FnMarksOrderCardSaid : Prop := Claim7.holds Tryd.pinned (.plain (OpenSpec.ofChange fnMarksOrderSpec)) fnMarksOrderCard

/-- THE TIED CARD OF 'laws.FnExactMarksRead'. -/
def fnExactMarksReadCard : Claim7 := { stood := { row := fnExactMarksReadRow, standIns := [], harness := (true, "c7cbe315be80a1540a9c071a66c754b883af9a8464c881be4332ab898a00eb17"), looks := false }, kinds := [], alts := [], laidByText := true, laidKinds := [.data, .data], laidTests := true, laidLooks := .later }
def FnExactMarksReadCardSaid : Prop := Claim7.holds Tryd.pinned (.plain (OpenSpec.ofChange fnExactMarksReadSpec)) fnExactMarksReadCard

/-- THE SECOND FORM's CARD OF 'laws.FnMarksOf'. -/
def fnMarksOfUptoCard : Claim7 := { stood := { row := fnMarksOfUptoRow, standIns := [], harness := (true, "c7cbe315be80a1540a9c071a66c754b883af9a8464c881be4332ab898a00eb17"), looks := false }, kinds := [], alts := [], laidByText := true, laidKinds := [.data, .data], laidTests := true, laidLooks := .later }
def FnMarksOfUptoCardSaid : Prop := Claim7.holds Tryd.pinned (.plain (OpenSpec.upto fnMarksOfSpec)) fnMarksOfUptoCard

/-- THE SECOND FORM's CARD OF 'laws.FnMarksRead'. -/
def fnMarksReadUptoCard : Claim7 := { stood := { row := fnMarksReadUptoRow, standIns := [], harness := (true, "c7cbe315be80a1540a9c071a66c754b883af9a8464c881be4332ab898a00eb17"), looks := false }, kinds := [], alts := [], laidByText := true, laidKinds := [.data, .data], laidTests := true, laidLooks := .later }
def FnMarksReadUptoCardSaid : Prop := Claim7.holds Tryd.pinned (.plain (OpenSpec.upto fnMarksReadSpec)) fnMarksReadUptoCard

/-- THE SECOND FORM's CARD OF 'laws.FnMarksEnd'. -/
def fnMarksEndUptoCard : Claim7 := { stood := { row := fnMarksEndUptoRow, standIns := [], harness := (true, "c7cbe315be80a1540a9c071a66c754b883af9a8464c881be4332ab898a00eb17"), looks := false }, kinds := [], alts := [], laidByText := true, laidKinds := [.data, .data], laidTests := true, laidLooks := .later }
def FnMarksEndUptoCardSaid : Prop := Claim7.holds Tryd.pinned (.plain (OpenSpec.upto fnMarksEndSpec)) fnMarksEndUptoCard

/-- THE SECOND FORM's CARD OF 'laws.FnMarksOrder'. -/
def fnMarksOrderUptoCard : Claim7 := { stood := { row := fnMarksOrderUptoRow, standIns := [], harness := (true, "c7cbe315be80a1540a9c071a66c754b883af9a8464c881be4332ab898a00eb17"), looks := false }, kinds := [], alts := [], laidByText := true, laidKinds := [.data, .data], laidTests := true, laidLooks := .later }
def FnMarksOrderUptoCardSaid : Prop := Claim7.holds Tryd.pinned (.plain (OpenSpec.upto fnMarksOrderSpec)) fnMarksOrderUptoCard

/-- THE SECOND FORM's CARD OF 'laws.FnExactMarksRead'. -/
def fnExactMarksReadUptoCard : Claim7 := { stood := { row := fnExactMarksReadUptoRow, standIns := [], harness := (true, "c7cbe315be80a1540a9c071a66c754b883af9a8464c881be4332ab898a00eb17"), looks := false }, kinds := [], alts := [], laidByText := true, laidKinds := [.data, .data], laidTests := true, laidLooks := .later }
def FnExactMarksReadUptoCardSaid : Prop := Claim7.holds Tryd.pinned (.plain (OpenSpec.upto fnExactMarksReadSpec)) fnExactMarksReadUptoCard
end Rows
end Go.Proofs.YtpgnneaaemfkoaaDoor
