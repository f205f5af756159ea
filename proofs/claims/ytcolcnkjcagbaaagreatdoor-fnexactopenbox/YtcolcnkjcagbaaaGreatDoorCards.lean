/-
  DERIVED. GIVEN WITH THE SEED: THE CARDS: each row of YtcolcnkjcagbaaaGreatDoorRows.lean that lists a variable, with what it lists TIED to the program's text (the seventh form; the later family's looks); each row that meets fmt, with fmt's text TOLD by the authors' own Lean function (tested against real Go, not proved from fmt's source: count such statements apart). THE CARD IS WHAT COUNTS. Prove the row's statement (the work); the ties are given (YtcolcnkjcagbaaaGreatDoorTie.lean); close each card by the builder's one call (the guide's Derived/Test/ToyasCard.lean, 'card_holds'). Laid BY PROGRAM, IN A SANDBOX (cutbox-door.mjs). By AI agents, Wed Nov 11 2026. No macro, syntax, notation, axiom, sorry.
-/
import Derived.Test.YtcolcnkjcagbaaaGreatDoorRows
import GoSem.ClaimSeven
namespace Go.Proofs.YtcolcnkjcagbaaaGreatDoor
namespace Rows

/-- THE TIED CARD OF 'laws.FnExactOpenBox'. -/
def fnExactOpenBoxCard : Claim7 := { stood := { row := fnExactOpenBoxRow, standIns := [], harness := (true, "ff2408ccb4c0cff39f48a95261f4a4992428d0681495eb3b26c8e2123cd9ffb6"), looks := true }, kinds := [], alts := [], laidByText := true, laidKinds := [.data, .data, .data, .handle, .sentinel], laidTests := true, laidLooks := .later }
def FnExactOpenBoxCardSaid : Prop := Claim7.holds Tryz.pinned (.plain (OpenSpec.ofChange fnExactOpenBoxSpec)) fnExactOpenBoxCard

/-- THE TIED CARD OF 'laws.FnBoxes'. -/
def fnBoxesCard : Claim7 := { stood := { row := fnBoxesRow, standIns := [], harness := (true, "ff2408ccb4c0cff39f48a95261f4a4992428d0681495eb3b26c8e2123cd9ffb6"), looks := true }, kinds := [], alts := [], laidByText := true, laidKinds := [.data, .data, .data, .handle, .sentinel], laidTests := true, laidLooks := .later }
def FnBoxesCardSaid : Prop := Claim7.holds Tryz.pinned (.plain (OpenSpec.ofChange fnBoxesSpec)) fnBoxesCard

/-- THE TIED CARD OF 'laws.FnShut'. -/
def fnShutCard : Claim7 := { stood := { row := fnShutRow, standIns := [], harness := (true, "ff2408ccb4c0cff39f48a95261f4a4992428d0681495eb3b26c8e2123cd9ffb6"), looks := true }, kinds := [], alts := [], laidByText := true, laidKinds := [.data, .data, .data, .handle, .sentinel], laidTests := true, laidLooks := .later }
def FnShutCardSaid : Prop := Claim7.holds Tryz.pinned (.plain (OpenSpec.ofChange fnShutSpec)) fnShutCard

/-- THE TIED CARD OF 'laws.FnBoxOpened'. -/
def fnBoxOpenedCard : Claim7 := { stood := { row := fnBoxOpenedRow, standIns := [], harness := (true, "ff2408ccb4c0cff39f48a95261f4a4992428d0681495eb3b26c8e2123cd9ffb6"), looks := true }, kinds := [], alts := [], laidByText := true, laidKinds := [.data, .data, .data, .handle, .sentinel], laidTests := true, laidLooks := .later }
def FnBoxOpenedCardSaid : Prop := Claim7.holds Tryz.pinned (.plain (OpenSpec.ofChange fnBoxOpenedSpec)) fnBoxOpenedCard

/-- THE SECOND FORM's CARD OF 'laws.FnExactOpenBox'. -/
def fnExactOpenBoxUptoCard : Claim7 := { stood := { row := fnExactOpenBoxUptoRow, standIns := [], harness := (true, "ff2408ccb4c0cff39f48a95261f4a4992428d0681495eb3b26c8e2123cd9ffb6"), looks := true }, kinds := [], alts := [], laidByText := true, laidKinds := [.data, .data, .data, .handle, .sentinel], laidTests := true, laidLooks := .later }
def FnExactOpenBoxUptoCardSaid : Prop := Claim7.holds Tryz.pinned (.plain (OpenSpec.upto fnExactOpenBoxSpec)) fnExactOpenBoxUptoCard

/-- THE SECOND FORM's CARD OF 'laws.FnBoxes'. -/
def fnBoxesUptoCard : Claim7 := { stood := { row := fnBoxesUptoRow, standIns := [], harness := (true, "ff2408ccb4c0cff39f48a95261f4a4992428d0681495eb3b26c8e2123cd9ffb6"), looks := true }, kinds := [], alts := [], laidByText := true, laidKinds := [.data, .data, .data, .handle, .sentinel], laidTests := true, laidLooks := .later }
def FnBoxesUptoCardSaid : Prop := Claim7.holds Tryz.pinned (.plain (OpenSpec.upto fnBoxesSpec)) fnBoxesUptoCard

/-- THE SECOND FORM's CARD OF 'laws.FnShut'. -/
def fnShutUptoCard : Claim7 := { stood := { row := fnShutUptoRow, standIns := [], harness := (true, "ff2408ccb4c0cff39f48a95261f4a4992428d0681495eb3b26c8e2123cd9ffb6"), looks := true }, kinds := [], alts := [], laidByText := true, laidKinds := [.data, .data, .data, .handle, .sentinel], laidTests := true, laidLooks := .later }
def FnShutUptoCardSaid : Prop := Claim7.holds Tryz.pinned (.plain (OpenSpec.upto fnShutSpec)) fnShutUptoCard

/-- THE SECOND FORM's CARD OF 'laws.FnBoxOpened'. -/
def fnBoxOpenedUptoCard : Claim7 := { stood := { row := fnBoxOpenedUptoRow, standIns := [], harness := (true, "ff2408ccb4c0cff39f48a95261f4a4992428d0681495eb3b26c8e2123cd9ffb6"), looks := true }, kinds := [], alts := [], laidByText := true, laidKinds := [.data, .data, .data, .handle, .sentinel], laidTests := true, laidLooks := .later }
def FnBoxOpenedUptoCardSaid : Prop := Claim7.holds Tryz.pinned (.plain (OpenSpec.upto fnBoxOpenedSpec)) fnBoxOpenedUptoCard
end Rows
end Go.Proofs.YtcolcnkjcagbaaaGreatDoor
