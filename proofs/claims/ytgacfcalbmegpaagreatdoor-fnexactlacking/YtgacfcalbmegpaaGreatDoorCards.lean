/-
  DERIVED. GIVEN WITH THE SEED: THE CARDS: each row of YtgacfcalbmegpaaGreatDoorRows.lean that lists a variable, with what it lists TIED to the program's text (the seventh form; the later family's looks); each row that meets fmt, with fmt's text TOLD by the authors' own Lean function (tested against real Go, not proved from fmt's source: count such statements apart). THE CARD IS WHAT COUNTS. Prove the row's statement (the work); the ties are given (YtgacfcalbmegpaaGreatDoorTie.lean); close each card by the builder's one call (the guide's Derived/Test/ToyasCard.lean, 'card_holds'). Laid BY PROGRAM, IN A SANDBOX (cutbox-door.mjs). By AI agents, Wed Nov 11 2026. No macro, syntax, notation, axiom, sorry.
-/
import Derived.Test.YtgacfcalbmegpaaGreatDoorRows
import GoSem.ClaimSeven
namespace Go.Proofs.YtgacfcalbmegpaaGreatDoor
namespace Rows

/-- THE TIED CARD OF 'laws.FnExactLacking'. -/
def fnExactLackingCard : Claim7 := { stood := { row := fnExactLackingRow, standIns := [], harness := (true, "064f60904361bbc0b04a95075689b4e1aa584fca6a224da325f4d17787bc72e2"), looks := false }, kinds := [], alts := [], laidByText := true, laidKinds := [.data, .data, .data, .data, .data, .data, .pinned], laidTests := true, laidLooks := .later }
def FnExactLackingCardSaid : Prop := Claim7.holds Tryz.pinned (.plain (OpenSpec.ofChange fnExactLackingSpec)) fnExactLackingCard

/-- THE TIED CARD OF 'laws.FnExactPart'. -/
def fnExactPartCard : Claim7 := { stood := { row := fnExactPartRow, standIns := [], harness := (true, "064f60904361bbc0b04a95075689b4e1aa584fca6a224da325f4d17787bc72e2"), looks := false }, kinds := [], alts := [], laidByText := true, laidKinds := [.data, .data, .data, .data, .data, .data, .pinned], laidTests := true, laidLooks := .later }
def FnExactPartCardSaid : Prop := Claim7.holds Tryz.pinned (.plain (OpenSpec.ofChange fnExactPartSpec)) fnExactPartCard

/-- THE TIED CARD OF 'laws.FnExactDagText'. -/
def fnExactDagTextCard : Claim7 := { stood := { row := fnExactDagTextRow, standIns := [], harness := (true, "064f60904361bbc0b04a95075689b4e1aa584fca6a224da325f4d17787bc72e2"), looks := false }, kinds := [], alts := [], laidByText := true, laidKinds := [.data, .data, .data, .data, .data, .data, .pinned], laidTests := true, laidLooks := .later }
def FnExactDagTextCardSaid : Prop := Claim7.holds Tryz.pinned (.plain (OpenSpec.ofChange fnExactDagTextSpec)) fnExactDagTextCard

/-- THE TIED CARD OF 'laws.FnExactReadDag'. -/
def fnExactReadDagCard : Claim7 := { stood := { row := fnExactReadDagRow, standIns := [], harness := (true, "064f60904361bbc0b04a95075689b4e1aa584fca6a224da325f4d17787bc72e2"), looks := false }, kinds := [], alts := [], laidByText := true, laidKinds := [.data, .data, .data, .data, .data, .data, .pinned], laidTests := true, laidLooks := .later }
def FnExactReadDagCardSaid : Prop := Claim7.holds Tryz.pinned (.plain (OpenSpec.ofChange fnExactReadDagSpec)) fnExactReadDagCard

/-- THE SECOND FORM's CARD OF 'laws.FnExactLacking'. -/
def fnExactLackingUptoCard : Claim7 := { stood := { row := fnExactLackingUptoRow, standIns := [], harness := (true, "064f60904361bbc0b04a95075689b4e1aa584fca6a224da325f4d17787bc72e2"), looks := false }, kinds := [], alts := [], laidByText := true, laidKinds := [.data, .data, .data, .data, .data, .data, .pinned], laidTests := true, laidLooks := .later }
def FnExactLackingUptoCardSaid : Prop := Claim7.holds Tryz.pinned (.plain (OpenSpec.upto fnExactLackingSpec)) fnExactLackingUptoCard

/-- THE SECOND FORM's CARD OF 'laws.FnExactPart'. -/
def fnExactPartUptoCard : Claim7 := { stood := { row := fnExactPartUptoRow, standIns := [], harness := (true, "064f60904361bbc0b04a95075689b4e1aa584fca6a224da325f4d17787bc72e2"), looks := false }, kinds := [], alts := [], laidByText := true, laidKinds := [.data, .data, .data, .data, .data, .data, .pinned], laidTests := true, laidLooks := .later }
def FnExactPartUptoCardSaid : Prop := Claim7.holds Tryz.pinned (.plain (OpenSpec.upto fnExactPartSpec)) fnExactPartUptoCard

/-- THE SECOND FORM's CARD OF 'laws.FnExactDagText'. -/
def fnExactDagTextUptoCard : Claim7 := { stood := { row := fnExactDagTextUptoRow, standIns := [], harness := (true, "064f60904361bbc0b04a95075689b4e1aa584fca6a224da325f4d17787bc72e2"), looks := false }, kinds := [], alts := [], laidByText := true, laidKinds := [.data, .data, .data, .data, .data, .data, .pinned], laidTests := true, laidLooks := .later }
def FnExactDagTextUptoCardSaid : Prop := Claim7.holds Tryz.pinned (.plain (OpenSpec.upto fnExactDagTextSpec)) fnExactDagTextUptoCard

/-- THE SECOND FORM's CARD OF 'laws.FnExactReadDag'. -/
def fnExactReadDagUptoCard : Claim7 := { stood := { row := fnExactReadDagUptoRow, standIns := [], harness := (true, "064f60904361bbc0b04a95075689b4e1aa584fca6a224da325f4d17787bc72e2"), looks := false }, kinds := [], alts := [], laidByText := true, laidKinds := [.data, .data, .data, .data, .data, .data, .pinned], laidTests := true, laidLooks := .later }
def FnExactReadDagUptoCardSaid : Prop := Claim7.holds Tryz.pinned (.plain (OpenSpec.upto fnExactReadDagSpec)) fnExactReadDagUptoCard
end Rows
end Go.Proofs.YtgacfcalbmegpaaGreatDoor
