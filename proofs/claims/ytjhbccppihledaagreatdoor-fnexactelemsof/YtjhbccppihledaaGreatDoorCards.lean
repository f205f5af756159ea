/-
  DERIVED. GIVEN WITH THE SEED: THE CARDS: each row of YtjhbccppihledaaGreatDoorRows.lean that lists a variable, with what it lists TIED to the program's text (the seventh form; the later family's looks); each row that meets fmt, with fmt's text TOLD by the authors' own Lean function (tested against real Go, not proved from fmt's source: count such statements apart). THE CARD IS WHAT COUNTS. Prove the row's statement (the work); the ties are given (YtjhbccppihledaaGreatDoorTie.lean); close each card by the builder's one call (the guide's Derived/Test/ToyasCard.lean, 'card_holds'). Laid BY PROGRAM, IN A SANDBOX (cutbox-door.mjs). By AI agents, Wed Nov 11 2026. No macro, syntax, notation, axiom, sorry.
-/
import Derived.Test.YtjhbccppihledaaGreatDoorRows
import GoSem.ClaimSeven
namespace Go.Proofs.YtjhbccppihledaaGreatDoor
namespace Rows

/-- THE TIED CARD OF 'laws.FnExactDagOk'. -/
def fnExactDagOkCard : Claim7 := { stood := { row := fnExactDagOkRow, standIns := [], harness := (true, "70845e627d5e6fd491b8303a878d2473eb7f8324ab21558b106593a06828c502"), looks := true }, kinds := [], alts := [], laidByText := true, laidKinds := [.data, .data, .data, .data, .data, .data, .pinned], laidTests := true, laidLooks := .later }
def FnExactDagOkCardSaid : Prop := Claim7.holds Tryz.pinned (.plain (OpenSpec.ofChange fnExactDagOkSpec)) fnExactDagOkCard

/-- THE TIED CARD OF 'laws.FnExactHeadsOf'. -/
def fnExactHeadsOfCard : Claim7 := { stood := { row := fnExactHeadsOfRow, standIns := [], harness := (true, "70845e627d5e6fd491b8303a878d2473eb7f8324ab21558b106593a06828c502"), looks := true }, kinds := [], alts := [], laidByText := true, laidKinds := [.data, .data, .data, .data, .data, .data, .pinned], laidTests := true, laidLooks := .later }
def FnExactHeadsOfCardSaid : Prop := Claim7.holds Tryz.pinned (.plain (OpenSpec.ofChange fnExactHeadsOfSpec)) fnExactHeadsOfCard

/-- THE TIED CARD OF 'laws.FnExactKeysIn'. -/
def fnExactKeysInCard : Claim7 := { stood := { row := fnExactKeysInRow, standIns := [], harness := (true, "70845e627d5e6fd491b8303a878d2473eb7f8324ab21558b106593a06828c502"), looks := true }, kinds := [], alts := [], laidByText := true, laidKinds := [.data, .data, .data, .data, .data, .data, .pinned], laidTests := true, laidLooks := .later }
def FnExactKeysInCardSaid : Prop := Claim7.holds Tryz.pinned (.plain (OpenSpec.ofChange fnExactKeysInSpec)) fnExactKeysInCard

/-- THE TIED CARD OF 'laws.FnExactBehind'. -/
def fnExactBehindCard : Claim7 := { stood := { row := fnExactBehindRow, standIns := [], harness := (true, "70845e627d5e6fd491b8303a878d2473eb7f8324ab21558b106593a06828c502"), looks := true }, kinds := [], alts := [], laidByText := true, laidKinds := [.data, .data, .data, .data, .data, .data, .pinned], laidTests := true, laidLooks := .later }
def FnExactBehindCardSaid : Prop := Claim7.holds Tryz.pinned (.plain (OpenSpec.ofChange fnExactBehindSpec)) fnExactBehindCard

/-- THE TIED CARD OF 'laws.FnExactElemsOf'. -/
def fnExactElemsOfCard : Claim7 := { stood := { row := fnExactElemsOfRow, standIns := [], harness := (true, "70845e627d5e6fd491b8303a878d2473eb7f8324ab21558b106593a06828c502"), looks := true }, kinds := [], alts := [], laidByText := true, laidKinds := [.data, .data, .data, .data, .data, .data, .pinned], laidTests := true, laidLooks := .later }
def FnExactElemsOfCardSaid : Prop := Claim7.holds Tryz.pinned (.plain (OpenSpec.ofChange fnExactElemsOfSpec)) fnExactElemsOfCard

/-- THE TIED CARD OF 'laws.FnExactPeerOk'. -/
def fnExactPeerOkCard : Claim7 := { stood := { row := fnExactPeerOkRow, standIns := [], harness := (true, "70845e627d5e6fd491b8303a878d2473eb7f8324ab21558b106593a06828c502"), looks := true }, kinds := [], alts := [], laidByText := true, laidKinds := [.data, .data, .data, .data, .data, .data, .pinned], laidTests := true, laidLooks := .later }
def FnExactPeerOkCardSaid : Prop := Claim7.holds Tryz.pinned (.plain (OpenSpec.ofChange fnExactPeerOkSpec)) fnExactPeerOkCard

/-- THE TIED CARD OF 'laws.FnExactOmitted'. -/
def fnExactOmittedCard : Claim7 := { stood := { row := fnExactOmittedRow, standIns := [], harness := (true, "70845e627d5e6fd491b8303a878d2473eb7f8324ab21558b106593a06828c502"), looks := true }, kinds := [], alts := [], laidByText := true, laidKinds := [.data, .data, .data, .data, .data, .data, .pinned], laidTests := true, laidLooks := .later }
def FnExactOmittedCardSaid : Prop := Claim7.holds Tryz.pinned (.plain (OpenSpec.ofChange fnExactOmittedSpec)) fnExactOmittedCard

/-- THE SECOND FORM's CARD OF 'laws.FnExactDagOk'. -/
def fnExactDagOkUptoCard : Claim7 := { stood := { row := fnExactDagOkUptoRow, standIns := [], harness := (true, "70845e627d5e6fd491b8303a878d2473eb7f8324ab21558b106593a06828c502"), looks := true }, kinds := [], alts := [], laidByText := true, laidKinds := [.data, .data, .data, .data, .data, .data, .pinned], laidTests := true, laidLooks := .later }
def FnExactDagOkUptoCardSaid : Prop := Claim7.holds Tryz.pinned (.plain (OpenSpec.upto fnExactDagOkSpec)) fnExactDagOkUptoCard

/-- THE SECOND FORM's CARD OF 'laws.FnExactHeadsOf'. -/
def fnExactHeadsOfUptoCard : Claim7 := { stood := { row := fnExactHeadsOfUptoRow, standIns := [], harness := (true, "70845e627d5e6fd491b8303a878d2473eb7f8324ab21558b106593a06828c502"), looks := true }, kinds := [], alts := [], laidByText := true, laidKinds := [.data, .data, .data, .data, .data, .data, .pinned], laidTests := true, laidLooks := .later }
def FnExactHeadsOfUptoCardSaid : Prop := Claim7.holds Tryz.pinned (.plain (OpenSpec.upto fnExactHeadsOfSpec)) fnExactHeadsOfUptoCard

/-- THE SECOND FORM's CARD OF 'laws.FnExactKeysIn'. -/
def fnExactKeysInUptoCard : Claim7 := { stood := { row := fnExactKeysInUptoRow, standIns := [], harness := (true, "70845e627d5e6fd491b8303a878d2473eb7f8324ab21558b106593a06828c502"), looks := true }, kinds := [], alts := [], laidByText := true, laidKinds := [.data, .data, .data, .data, .data, .data, .pinned], laidTests := true, laidLooks := .later }
def FnExactKeysInUptoCardSaid : Prop := Claim7.holds Tryz.pinned (.plain (OpenSpec.upto fnExactKeysInSpec)) fnExactKeysInUptoCard

/-- THE SECOND FORM's CARD OF 'laws.FnExactBehind'. -/
def fnExactBehindUptoCard : Claim7 := { stood := { row := fnExactBehindUptoRow, standIns := [], harness := (true, "70845e627d5e6fd491b8303a878d2473eb7f8324ab21558b106593a06828c502"), looks := true }, kinds := [], alts := [], laidByText := true, laidKinds := [.data, .data, .data, .data, .data, .data, .pinned], laidTests := true, laidLooks := .later }
def FnExactBehindUptoCardSaid : Prop := Claim7.holds Tryz.pinned (.plain (OpenSpec.upto fnExactBehindSpec)) fnExactBehindUptoCard

/-- THE SECOND FORM's CARD OF 'laws.FnExactElemsOf'. -/
def fnExactElemsOfUptoCard : Claim7 := { stood := { row := fnExactElemsOfUptoRow, standIns := [], harness := (true, "70845e627d5e6fd491b8303a878d2473eb7f8324ab21558b106593a06828c502"), looks := true }, kinds := [], alts := [], laidByText := true, laidKinds := [.data, .data, .data, .data, .data, .data, .pinned], laidTests := true, laidLooks := .later }
def FnExactElemsOfUptoCardSaid : Prop := Claim7.holds Tryz.pinned (.plain (OpenSpec.upto fnExactElemsOfSpec)) fnExactElemsOfUptoCard

/-- THE SECOND FORM's CARD OF 'laws.FnExactPeerOk'. -/
def fnExactPeerOkUptoCard : Claim7 := { stood := { row := fnExactPeerOkUptoRow, standIns := [], harness := (true, "70845e627d5e6fd491b8303a878d2473eb7f8324ab21558b106593a06828c502"), looks := true }, kinds := [], alts := [], laidByText := true, laidKinds := [.data, .data, .data, .data, .data, .data, .pinned], laidTests := true, laidLooks := .later }
def FnExactPeerOkUptoCardSaid : Prop := Claim7.holds Tryz.pinned (.plain (OpenSpec.upto fnExactPeerOkSpec)) fnExactPeerOkUptoCard

/-- THE SECOND FORM's CARD OF 'laws.FnExactOmitted'. -/
def fnExactOmittedUptoCard : Claim7 := { stood := { row := fnExactOmittedUptoRow, standIns := [], harness := (true, "70845e627d5e6fd491b8303a878d2473eb7f8324ab21558b106593a06828c502"), looks := true }, kinds := [], alts := [], laidByText := true, laidKinds := [.data, .data, .data, .data, .data, .data, .pinned], laidTests := true, laidLooks := .later }
def FnExactOmittedUptoCardSaid : Prop := Claim7.holds Tryz.pinned (.plain (OpenSpec.upto fnExactOmittedSpec)) fnExactOmittedUptoCard
end Rows
end Go.Proofs.YtjhbccppihledaaGreatDoor
