/-
  DERIVED. GIVEN WITH THE SEED: THE CARDS: each row of YtdbkbgdnfphhfaaDoorRows.lean that lists a variable, with what it lists TIED to the program's text (the seventh form; the later family's looks); each row that meets fmt, with fmt's text TOLD by the authors' own Lean function (tested against real Go, not proved from fmt's source: count such statements apart). THE CARD IS WHAT COUNTS. Prove the row's statement (the work); the ties are given (YtdbkbgdnfphhfaaDoorTie.lean); close each card by the builder's one call (the guide's Derived/Test/ToyasCard.lean, 'card_holds'). Laid BY PROGRAM, IN A SANDBOX (cutbox-door.mjs). By AI agents, Wed Nov 11 2026. No macro, syntax, notation, axiom, sorry.
-/
import Derived.Test.YtdbkbgdnfphhfaaDoorRows
import GoSem.ClaimSeven
namespace Go.Proofs.YtdbkbgdnfphhfaaDoor
namespace Rows

/-- THE TIED CARD OF 'laws.FnExactBoxOk'. -/
def fnExactBoxOkCard : Claim7 := { stood := { row := fnExactBoxOkRow, standIns := [], harness := (true, "f0d7f358c9a10e52e2bf07bc3798f675d1fc56f0c895f17fe166a9928b397336"), looks := true }, kinds := [], alts := [], laidByText := true, laidKinds := [.handle, .sentinel], laidTests := true, laidLooks := .later }
def FnExactBoxOkCardSaid : Prop := Claim7.holds Tryd.pinned (.plain (OpenSpec.ofChange fnExactBoxOkSpec)) fnExactBoxOkCard

/-- THE TIED CARD OF 'laws.FnExactReadersOf'. -/
def fnExactReadersOfCard : Claim7 := { stood := { row := fnExactReadersOfRow, standIns := [], harness := (true, "f0d7f358c9a10e52e2bf07bc3798f675d1fc56f0c895f17fe166a9928b397336"), looks := true }, kinds := [], alts := [], laidByText := true, laidKinds := [.handle, .sentinel], laidTests := true, laidLooks := .later }
def FnExactReadersOfCardSaid : Prop := Claim7.holds Tryd.pinned (.plain (OpenSpec.ofChange fnExactReadersOfSpec)) fnExactReadersOfCard

/-- THE SECOND FORM's CARD OF 'laws.FnExactBoxOk'. -/
def fnExactBoxOkUptoCard : Claim7 := { stood := { row := fnExactBoxOkUptoRow, standIns := [], harness := (true, "f0d7f358c9a10e52e2bf07bc3798f675d1fc56f0c895f17fe166a9928b397336"), looks := true }, kinds := [], alts := [], laidByText := true, laidKinds := [.handle, .sentinel], laidTests := true, laidLooks := .later }
def FnExactBoxOkUptoCardSaid : Prop := Claim7.holds Tryd.pinned (.plain (OpenSpec.upto fnExactBoxOkSpec)) fnExactBoxOkUptoCard

/-- THE SECOND FORM's CARD OF 'laws.FnExactReadersOf'. -/
def fnExactReadersOfUptoCard : Claim7 := { stood := { row := fnExactReadersOfUptoRow, standIns := [], harness := (true, "f0d7f358c9a10e52e2bf07bc3798f675d1fc56f0c895f17fe166a9928b397336"), looks := true }, kinds := [], alts := [], laidByText := true, laidKinds := [.handle, .sentinel], laidTests := true, laidLooks := .later }
def FnExactReadersOfUptoCardSaid : Prop := Claim7.holds Tryd.pinned (.plain (OpenSpec.upto fnExactReadersOfSpec)) fnExactReadersOfUptoCard
end Rows
end Go.Proofs.YtdbkbgdnfphhfaaDoor
