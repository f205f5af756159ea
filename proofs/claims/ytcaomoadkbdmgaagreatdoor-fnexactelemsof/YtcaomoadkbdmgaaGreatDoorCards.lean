/-
  DERIVED. GIVEN WITH THE SEED: THE CARDS: each row of YtcaomoadkbdmgaaGreatDoorRows.lean that lists a variable, with what it lists TIED to the program's text (the seventh form; the later family's looks); each row that meets fmt, with fmt's text TOLD by the authors' own Lean function (tested against real Go, not proved from fmt's source: count such statements apart). THE CARD IS WHAT COUNTS. Prove the row's statement (the work); the ties are given (YtcaomoadkbdmgaaGreatDoorTie.lean); close each card by the builder's one call (the guide's Derived/Test/ToyasCard.lean, 'card_holds'). Laid BY PROGRAM, IN A SANDBOX (cutbox-door.mjs). By AI agents, Wed Nov 11 2026. No macro, syntax, notation, axiom, sorry.
-/
import Derived.Test.YtcaomoadkbdmgaaGreatDoorRows
import GoSem.ClaimSeven
namespace Go.Proofs.YtcaomoadkbdmgaaGreatDoor
namespace Rows

/-- THE TIED CARD OF 'laws.FnExactHeadsOf'. -/
def fnExactHeadsOfCard : Claim7 := { stood := { row := fnExactHeadsOfRow, standIns := [], harness := (true, "d3644d2709b012fc5a92e229c2f69877e52f8b9362d4e04ef8b5c28384de9c19"), looks := true }, kinds := [], alts := [], laidByText := true, laidKinds := [.data, .data, .data, .data, .data, .data, .pinned], laidTests := true, laidLooks := .later }
def FnExactHeadsOfCardSaid : Prop := Claim7.holds Tryz.pinned (.plain (OpenSpec.ofChange fnExactHeadsOfSpec)) fnExactHeadsOfCard

/-- THE TIED CARD OF 'laws.FnExactBehind'. -/
def fnExactBehindCard : Claim7 := { stood := { row := fnExactBehindRow, standIns := [], harness := (true, "d3644d2709b012fc5a92e229c2f69877e52f8b9362d4e04ef8b5c28384de9c19"), looks := true }, kinds := [], alts := [], laidByText := true, laidKinds := [.data, .data, .data, .data, .data, .data, .pinned], laidTests := true, laidLooks := .later }
def FnExactBehindCardSaid : Prop := Claim7.holds Tryz.pinned (.plain (OpenSpec.ofChange fnExactBehindSpec)) fnExactBehindCard

/-- THE TIED CARD OF 'laws.FnExactElemsOf'. -/
def fnExactElemsOfCard : Claim7 := { stood := { row := fnExactElemsOfRow, standIns := [], harness := (true, "d3644d2709b012fc5a92e229c2f69877e52f8b9362d4e04ef8b5c28384de9c19"), looks := true }, kinds := [], alts := [], laidByText := true, laidKinds := [.data, .data, .data, .data, .data, .data, .pinned], laidTests := true, laidLooks := .later }
def FnExactElemsOfCardSaid : Prop := Claim7.holds Tryz.pinned (.plain (OpenSpec.ofChange fnExactElemsOfSpec)) fnExactElemsOfCard

/-- THE TIED CARD OF 'laws.FnExactKeysIn'. -/
def fnExactKeysInCard : Claim7 := { stood := { row := fnExactKeysInRow, standIns := [], harness := (true, "d3644d2709b012fc5a92e229c2f69877e52f8b9362d4e04ef8b5c28384de9c19"), looks := true }, kinds := [], alts := [], laidByText := true, laidKinds := [.data, .data, .data, .data, .data, .data, .pinned], laidTests := true, laidLooks := .later }
def FnExactKeysInCardSaid : Prop := Claim7.holds Tryz.pinned (.plain (OpenSpec.ofChange fnExactKeysInSpec)) fnExactKeysInCard

/-- THE TIED CARD OF 'laws.FnExactAdded'. -/
def fnExactAddedCard : Claim7 := { stood := { row := fnExactAddedRow, standIns := [], harness := (true, "d3644d2709b012fc5a92e229c2f69877e52f8b9362d4e04ef8b5c28384de9c19"), looks := true }, kinds := [], alts := [], laidByText := true, laidKinds := [.data, .data, .data, .data, .data, .data, .pinned], laidTests := true, laidLooks := .later }
def FnExactAddedCardSaid : Prop := Claim7.holds Tryz.pinned (.plain (OpenSpec.ofChange fnExactAddedSpec)) fnExactAddedCard

/-- THE TIED CARD OF 'laws.FnExactJoined'. -/
def fnExactJoinedCard : Claim7 := { stood := { row := fnExactJoinedRow, standIns := [], harness := (true, "d3644d2709b012fc5a92e229c2f69877e52f8b9362d4e04ef8b5c28384de9c19"), looks := true }, kinds := [], alts := [], laidByText := true, laidKinds := [.data, .data, .data, .data, .data, .data, .pinned], laidTests := true, laidLooks := .later }
def FnExactJoinedCardSaid : Prop := Claim7.holds Tryz.pinned (.plain (OpenSpec.ofChange fnExactJoinedSpec)) fnExactJoinedCard

/-- THE SECOND FORM's CARD OF 'laws.FnExactHeadsOf'. -/
def fnExactHeadsOfUptoCard : Claim7 := { stood := { row := fnExactHeadsOfUptoRow, standIns := [], harness := (true, "d3644d2709b012fc5a92e229c2f69877e52f8b9362d4e04ef8b5c28384de9c19"), looks := true }, kinds := [], alts := [], laidByText := true, laidKinds := [.data, .data, .data, .data, .data, .data, .pinned], laidTests := true, laidLooks := .later }
def FnExactHeadsOfUptoCardSaid : Prop := Claim7.holds Tryz.pinned (.plain (OpenSpec.upto fnExactHeadsOfSpec)) fnExactHeadsOfUptoCard

/-- THE SECOND FORM's CARD OF 'laws.FnExactBehind'. -/
def fnExactBehindUptoCard : Claim7 := { stood := { row := fnExactBehindUptoRow, standIns := [], harness := (true, "d3644d2709b012fc5a92e229c2f69877e52f8b9362d4e04ef8b5c28384de9c19"), looks := true }, kinds := [], alts := [], laidByText := true, laidKinds := [.data, .data, .data, .data, .data, .data, .pinned], laidTests := true, laidLooks := .later }
def FnExactBehindUptoCardSaid : Prop := Claim7.holds Tryz.pinned (.plain (OpenSpec.upto fnExactBehindSpec)) fnExactBehindUptoCard

/-- THE SECOND FORM's CARD OF 'laws.FnExactElemsOf'. -/
def fnExactElemsOfUptoCard : Claim7 := { stood := { row := fnExactElemsOfUptoRow, standIns := [], harness := (true, "d3644d2709b012fc5a92e229c2f69877e52f8b9362d4e04ef8b5c28384de9c19"), looks := true }, kinds := [], alts := [], laidByText := true, laidKinds := [.data, .data, .data, .data, .data, .data, .pinned], laidTests := true, laidLooks := .later }
def FnExactElemsOfUptoCardSaid : Prop := Claim7.holds Tryz.pinned (.plain (OpenSpec.upto fnExactElemsOfSpec)) fnExactElemsOfUptoCard

/-- THE SECOND FORM's CARD OF 'laws.FnExactKeysIn'. -/
def fnExactKeysInUptoCard : Claim7 := { stood := { row := fnExactKeysInUptoRow, standIns := [], harness := (true, "d3644d2709b012fc5a92e229c2f69877e52f8b9362d4e04ef8b5c28384de9c19"), looks := true }, kinds := [], alts := [], laidByText := true, laidKinds := [.data, .data, .data, .data, .data, .data, .pinned], laidTests := true, laidLooks := .later }
def FnExactKeysInUptoCardSaid : Prop := Claim7.holds Tryz.pinned (.plain (OpenSpec.upto fnExactKeysInSpec)) fnExactKeysInUptoCard

/-- THE SECOND FORM's CARD OF 'laws.FnExactAdded'. -/
def fnExactAddedUptoCard : Claim7 := { stood := { row := fnExactAddedUptoRow, standIns := [], harness := (true, "d3644d2709b012fc5a92e229c2f69877e52f8b9362d4e04ef8b5c28384de9c19"), looks := true }, kinds := [], alts := [], laidByText := true, laidKinds := [.data, .data, .data, .data, .data, .data, .pinned], laidTests := true, laidLooks := .later }
def FnExactAddedUptoCardSaid : Prop := Claim7.holds Tryz.pinned (.plain (OpenSpec.upto fnExactAddedSpec)) fnExactAddedUptoCard

/-- THE SECOND FORM's CARD OF 'laws.FnExactJoined'. -/
def fnExactJoinedUptoCard : Claim7 := { stood := { row := fnExactJoinedUptoRow, standIns := [], harness := (true, "d3644d2709b012fc5a92e229c2f69877e52f8b9362d4e04ef8b5c28384de9c19"), looks := true }, kinds := [], alts := [], laidByText := true, laidKinds := [.data, .data, .data, .data, .data, .data, .pinned], laidTests := true, laidLooks := .later }
def FnExactJoinedUptoCardSaid : Prop := Claim7.holds Tryz.pinned (.plain (OpenSpec.upto fnExactJoinedSpec)) fnExactJoinedUptoCard
end Rows
end Go.Proofs.YtcaomoadkbdmgaaGreatDoor
