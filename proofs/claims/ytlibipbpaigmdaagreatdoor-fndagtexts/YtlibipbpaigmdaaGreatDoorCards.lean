/-
  DERIVED. GIVEN WITH THE SEED: THE CARDS: each row of YtlibipbpaigmdaaGreatDoorRows.lean that lists a variable, with what it lists TIED to the program's text (the seventh form; the later family's looks); each row that meets fmt, with fmt's text TOLD by the authors' own Lean function (tested against real Go, not proved from fmt's source: count such statements apart). THE CARD IS WHAT COUNTS. Prove the row's statement (the work); the ties are given (YtlibipbpaigmdaaGreatDoorTie.lean); close each card by the builder's one call (the guide's Derived/Test/ToyasCard.lean, 'card_holds'). Laid BY PROGRAM, IN A SANDBOX (cutbox-door.mjs). By AI agents, Wed Nov 11 2026. No macro, syntax, notation, axiom, sorry.
-/
import Derived.Test.YtlibipbpaigmdaaGreatDoorRows
import GoSem.ClaimSeven
namespace Go.Proofs.YtlibipbpaigmdaaGreatDoor
namespace Rows

/-- THE TIED CARD OF 'laws.FnExactSettled'. -/
def fnExactSettledCard : Claim7 := { stood := { row := fnExactSettledRow, standIns := [], harness := (true, "78e3b20d37e087f644783d33f116ed67149e20af16f2eecdaed2431b3e86eed8"), looks := true }, kinds := [], alts := [], laidByText := true, laidKinds := [.data, .data, .data, .data, .data, .data, .pinned], laidTests := true, laidLooks := .later }
def FnExactSettledCardSaid : Prop := Claim7.holds Tryz.pinned (.plain (OpenSpec.ofChange fnExactSettledSpec)) fnExactSettledCard

/-- THE TIED CARD OF 'laws.FnExactPart'. -/
def fnExactPartCard : Claim7 := { stood := { row := fnExactPartRow, standIns := [], harness := (true, "78e3b20d37e087f644783d33f116ed67149e20af16f2eecdaed2431b3e86eed8"), looks := true }, kinds := [], alts := [], laidByText := true, laidKinds := [.data, .data, .data, .data, .data, .data, .pinned], laidTests := true, laidLooks := .later }
def FnExactPartCardSaid : Prop := Claim7.holds Tryz.pinned (.plain (OpenSpec.ofChange fnExactPartSpec)) fnExactPartCard

/-- THE TIED CARD OF 'laws.FnExactReadDag'. -/
def fnExactReadDagCard : Claim7 := { stood := { row := fnExactReadDagRow, standIns := [], harness := (true, "78e3b20d37e087f644783d33f116ed67149e20af16f2eecdaed2431b3e86eed8"), looks := true }, kinds := [], alts := [], laidByText := true, laidKinds := [.data, .data, .data, .data, .data, .data, .pinned], laidTests := true, laidLooks := .later }
def FnExactReadDagCardSaid : Prop := Claim7.holds Tryz.pinned (.plain (OpenSpec.ofChange fnExactReadDagSpec)) fnExactReadDagCard

/-- THE TIED CARD OF 'laws.FnSettled'. -/
def fnSettledCard : Claim7 := { stood := { row := fnSettledRow, standIns := [], harness := (true, "78e3b20d37e087f644783d33f116ed67149e20af16f2eecdaed2431b3e86eed8"), looks := true }, kinds := [], alts := [], laidByText := true, laidKinds := [.data, .data, .data, .data, .data, .data, .pinned], laidTests := true, laidLooks := .later }
def FnSettledCardSaid : Prop := Claim7.holds Tryz.pinned (.plain (OpenSpec.ofChange fnSettledSpec)) fnSettledCard

/-- THE TIED CARD OF 'laws.FnLacking'. -/
def fnLackingCard : Claim7 := { stood := { row := fnLackingRow, standIns := [], harness := (true, "78e3b20d37e087f644783d33f116ed67149e20af16f2eecdaed2431b3e86eed8"), looks := true }, kinds := [], alts := [], laidByText := true, laidKinds := [.data, .data, .data, .data, .data, .data, .pinned], laidTests := true, laidLooks := .later }
def FnLackingCardSaid : Prop := Claim7.holds Tryz.pinned (.plain (OpenSpec.ofChange fnLackingSpec)) fnLackingCard

/-- THE TIED CARD OF 'laws.FnBehind'. -/
def fnBehindCard : Claim7 := { stood := { row := fnBehindRow, standIns := [], harness := (true, "78e3b20d37e087f644783d33f116ed67149e20af16f2eecdaed2431b3e86eed8"), looks := true }, kinds := [], alts := [], laidByText := true, laidKinds := [.data, .data, .data, .data, .data, .data, .pinned], laidTests := true, laidLooks := .later }
def FnBehindCardSaid : Prop := Claim7.holds Tryz.pinned (.plain (OpenSpec.ofChange fnBehindSpec)) fnBehindCard

/-- THE TIED CARD OF 'laws.FnHeads'. -/
def fnHeadsCard : Claim7 := { stood := { row := fnHeadsRow, standIns := [], harness := (true, "78e3b20d37e087f644783d33f116ed67149e20af16f2eecdaed2431b3e86eed8"), looks := true }, kinds := [], alts := [], laidByText := true, laidKinds := [.data, .data, .data, .data, .data, .data, .pinned], laidTests := true, laidLooks := .later }
def FnHeadsCardSaid : Prop := Claim7.holds Tryz.pinned (.plain (OpenSpec.ofChange fnHeadsSpec)) fnHeadsCard

/-- THE TIED CARD OF 'laws.FnNodes'. -/
def fnNodesCard : Claim7 := { stood := { row := fnNodesRow, standIns := [], harness := (true, "78e3b20d37e087f644783d33f116ed67149e20af16f2eecdaed2431b3e86eed8"), looks := true }, kinds := [], alts := [], laidByText := true, laidKinds := [.data, .data, .data, .data, .data, .data, .pinned], laidTests := true, laidLooks := .later }
def FnNodesCardSaid : Prop := Claim7.holds Tryz.pinned (.plain (OpenSpec.ofChange fnNodesSpec)) fnNodesCard

/-- THE TIED CARD OF 'laws.FnDagTexts'. -/
def fnDagTextsCard : Claim7 := { stood := { row := fnDagTextsRow, standIns := [], harness := (true, "78e3b20d37e087f644783d33f116ed67149e20af16f2eecdaed2431b3e86eed8"), looks := true }, kinds := [], alts := [], laidByText := true, laidKinds := [.data, .data, .data, .data, .data, .data, .pinned], laidTests := true, laidLooks := .later }
def FnDagTextsCardSaid : Prop := Claim7.holds Tryz.pinned (.plain (OpenSpec.ofChange fnDagTextsSpec)) fnDagTextsCard

/-- THE TIED CARD OF 'laws.FnDagParts'. -/
def fnDagPartsCard : Claim7 := { stood := { row := fnDagPartsRow, standIns := [], harness := (true, "78e3b20d37e087f644783d33f116ed67149e20af16f2eecdaed2431b3e86eed8"), looks := true }, kinds := [], alts := [], laidByText := true, laidKinds := [.data, .data, .data, .data, .data, .data, .pinned], laidTests := true, laidLooks := .later }
def FnDagPartsCardSaid : Prop := Claim7.holds Tryz.pinned (.plain (OpenSpec.ofChange fnDagPartsSpec)) fnDagPartsCard

/-- THE TIED CARD OF 'laws.FnOrdered'. -/
def fnOrderedCard : Claim7 := { stood := { row := fnOrderedRow, standIns := [], harness := (true, "78e3b20d37e087f644783d33f116ed67149e20af16f2eecdaed2431b3e86eed8"), looks := true }, kinds := [], alts := [], laidByText := true, laidKinds := [.data, .data, .data, .data, .data, .data, .pinned], laidTests := true, laidLooks := .later }
def FnOrderedCardSaid : Prop := Claim7.holds Tryz.pinned (.plain (OpenSpec.ofChange fnOrderedSpec)) fnOrderedCard

/-- THE TIED CARD OF 'laws.FnDocs'. -/
def fnDocsCard : Claim7 := { stood := { row := fnDocsRow, standIns := [], harness := (true, "78e3b20d37e087f644783d33f116ed67149e20af16f2eecdaed2431b3e86eed8"), looks := true }, kinds := [], alts := [], laidByText := true, laidKinds := [.data, .data, .data, .data, .data, .data, .pinned], laidTests := true, laidLooks := .later }
def FnDocsCardSaid : Prop := Claim7.holds Tryz.pinned (.plain (OpenSpec.ofChange fnDocsSpec)) fnDocsCard

/-- THE SECOND FORM's CARD OF 'laws.FnExactSettled'. -/
def fnExactSettledUptoCard : Claim7 := { stood := { row := fnExactSettledUptoRow, standIns := [], harness := (true, "78e3b20d37e087f644783d33f116ed67149e20af16f2eecdaed2431b3e86eed8"), looks := true }, kinds := [], alts := [], laidByText := true, laidKinds := [.data, .data, .data, .data, .data, .data, .pinned], laidTests := true, laidLooks := .later }
def FnExactSettledUptoCardSaid : Prop := Claim7.holds Tryz.pinned (.plain (OpenSpec.upto fnExactSettledSpec)) fnExactSettledUptoCard

/-- THE SECOND FORM's CARD OF 'laws.FnExactPart'. -/
def fnExactPartUptoCard : Claim7 := { stood := { row := fnExactPartUptoRow, standIns := [], harness := (true, "78e3b20d37e087f644783d33f116ed67149e20af16f2eecdaed2431b3e86eed8"), looks := true }, kinds := [], alts := [], laidByText := true, laidKinds := [.data, .data, .data, .data, .data, .data, .pinned], laidTests := true, laidLooks := .later }
def FnExactPartUptoCardSaid : Prop := Claim7.holds Tryz.pinned (.plain (OpenSpec.upto fnExactPartSpec)) fnExactPartUptoCard

/-- THE SECOND FORM's CARD OF 'laws.FnExactReadDag'. -/
def fnExactReadDagUptoCard : Claim7 := { stood := { row := fnExactReadDagUptoRow, standIns := [], harness := (true, "78e3b20d37e087f644783d33f116ed67149e20af16f2eecdaed2431b3e86eed8"), looks := true }, kinds := [], alts := [], laidByText := true, laidKinds := [.data, .data, .data, .data, .data, .data, .pinned], laidTests := true, laidLooks := .later }
def FnExactReadDagUptoCardSaid : Prop := Claim7.holds Tryz.pinned (.plain (OpenSpec.upto fnExactReadDagSpec)) fnExactReadDagUptoCard

/-- THE SECOND FORM's CARD OF 'laws.FnSettled'. -/
def fnSettledUptoCard : Claim7 := { stood := { row := fnSettledUptoRow, standIns := [], harness := (true, "78e3b20d37e087f644783d33f116ed67149e20af16f2eecdaed2431b3e86eed8"), looks := true }, kinds := [], alts := [], laidByText := true, laidKinds := [.data, .data, .data, .data, .data, .data, .pinned], laidTests := true, laidLooks := .later }
def FnSettledUptoCardSaid : Prop := Claim7.holds Tryz.pinned (.plain (OpenSpec.upto fnSettledSpec)) fnSettledUptoCard

/-- THE SECOND FORM's CARD OF 'laws.FnLacking'. -/
def fnLackingUptoCard : Claim7 := { stood := { row := fnLackingUptoRow, standIns := [], harness := (true, "78e3b20d37e087f644783d33f116ed67149e20af16f2eecdaed2431b3e86eed8"), looks := true }, kinds := [], alts := [], laidByText := true, laidKinds := [.data, .data, .data, .data, .data, .data, .pinned], laidTests := true, laidLooks := .later }
def FnLackingUptoCardSaid : Prop := Claim7.holds Tryz.pinned (.plain (OpenSpec.upto fnLackingSpec)) fnLackingUptoCard

/-- THE SECOND FORM's CARD OF 'laws.FnBehind'. -/
def fnBehindUptoCard : Claim7 := { stood := { row := fnBehindUptoRow, standIns := [], harness := (true, "78e3b20d37e087f644783d33f116ed67149e20af16f2eecdaed2431b3e86eed8"), looks := true }, kinds := [], alts := [], laidByText := true, laidKinds := [.data, .data, .data, .data, .data, .data, .pinned], laidTests := true, laidLooks := .later }
def FnBehindUptoCardSaid : Prop := Claim7.holds Tryz.pinned (.plain (OpenSpec.upto fnBehindSpec)) fnBehindUptoCard

/-- THE SECOND FORM's CARD OF 'laws.FnHeads'. -/
def fnHeadsUptoCard : Claim7 := { stood := { row := fnHeadsUptoRow, standIns := [], harness := (true, "78e3b20d37e087f644783d33f116ed67149e20af16f2eecdaed2431b3e86eed8"), looks := true }, kinds := [], alts := [], laidByText := true, laidKinds := [.data, .data, .data, .data, .data, .data, .pinned], laidTests := true, laidLooks := .later }
def FnHeadsUptoCardSaid : Prop := Claim7.holds Tryz.pinned (.plain (OpenSpec.upto fnHeadsSpec)) fnHeadsUptoCard

/-- THE SECOND FORM's CARD OF 'laws.FnNodes'. -/
def fnNodesUptoCard : Claim7 := { stood := { row := fnNodesUptoRow, standIns := [], harness := (true, "78e3b20d37e087f644783d33f116ed67149e20af16f2eecdaed2431b3e86eed8"), looks := true }, kinds := [], alts := [], laidByText := true, laidKinds := [.data, .data, .data, .data, .data, .data, .pinned], laidTests := true, laidLooks := .later }
def FnNodesUptoCardSaid : Prop := Claim7.holds Tryz.pinned (.plain (OpenSpec.upto fnNodesSpec)) fnNodesUptoCard

/-- THE SECOND FORM's CARD OF 'laws.FnDagTexts'. -/
def fnDagTextsUptoCard : Claim7 := { stood := { row := fnDagTextsUptoRow, standIns := [], harness := (true, "78e3b20d37e087f644783d33f116ed67149e20af16f2eecdaed2431b3e86eed8"), looks := true }, kinds := [], alts := [], laidByText := true, laidKinds := [.data, .data, .data, .data, .data, .data, .pinned], laidTests := true, laidLooks := .later }
def FnDagTextsUptoCardSaid : Prop := Claim7.holds Tryz.pinned (.plain (OpenSpec.upto fnDagTextsSpec)) fnDagTextsUptoCard

/-- THE SECOND FORM's CARD OF 'laws.FnDagParts'. -/
def fnDagPartsUptoCard : Claim7 := { stood := { row := fnDagPartsUptoRow, standIns := [], harness := (true, "78e3b20d37e087f644783d33f116ed67149e20af16f2eecdaed2431b3e86eed8"), looks := true }, kinds := [], alts := [], laidByText := true, laidKinds := [.data, .data, .data, .data, .data, .data, .pinned], laidTests := true, laidLooks := .later }
def FnDagPartsUptoCardSaid : Prop := Claim7.holds Tryz.pinned (.plain (OpenSpec.upto fnDagPartsSpec)) fnDagPartsUptoCard

/-- THE SECOND FORM's CARD OF 'laws.FnOrdered'. -/
def fnOrderedUptoCard : Claim7 := { stood := { row := fnOrderedUptoRow, standIns := [], harness := (true, "78e3b20d37e087f644783d33f116ed67149e20af16f2eecdaed2431b3e86eed8"), looks := true }, kinds := [], alts := [], laidByText := true, laidKinds := [.data, .data, .data, .data, .data, .data, .pinned], laidTests := true, laidLooks := .later }
def FnOrderedUptoCardSaid : Prop := Claim7.holds Tryz.pinned (.plain (OpenSpec.upto fnOrderedSpec)) fnOrderedUptoCard

/-- THE SECOND FORM's CARD OF 'laws.FnDocs'. -/
def fnDocsUptoCard : Claim7 := { stood := { row := fnDocsUptoRow, standIns := [], harness := (true, "78e3b20d37e087f644783d33f116ed67149e20af16f2eecdaed2431b3e86eed8"), looks := true }, kinds := [], alts := [], laidByText := true, laidKinds := [.data, .data, .data, .data, .data, .data, .pinned], laidTests := true, laidLooks := .later }
def FnDocsUptoCardSaid : Prop := Claim7.holds Tryz.pinned (.plain (OpenSpec.upto fnDocsSpec)) fnDocsUptoCard
end Rows
end Go.Proofs.YtlibipbpaigmdaaGreatDoor
