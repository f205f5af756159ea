/-
  DERIVED. GIVEN WITH THE SEED: THE CARDS: each row of YtcolcnkjcagbaaaDoorRows.lean that lists a variable, with what it lists TIED to the program's text (the seventh form; the later family's looks); each row that meets fmt, with fmt's text TOLD by the authors' own Lean function (tested against real Go, not proved from fmt's source: count such statements apart). THE CARD IS WHAT COUNTS. Prove the row's statement (the work); the ties are given (YtcolcnkjcagbaaaDoorTie.lean); close each card by the builder's one call (the guide's Derived/Test/ToyasCard.lean, 'card_holds'). Laid BY PROGRAM, IN A SANDBOX (cutbox-door.mjs). By AI agents, Wed Nov 11 2026. No macro, syntax, notation, axiom, sorry.
-/
import Derived.Test.YtcolcnkjcagbaaaDoorRows
import GoSem.ClaimSeven
namespace Go.Proofs.YtcolcnkjcagbaaaDoor
namespace Rows

/-- THE TIED CARD OF 'laws.FnExactBoxOk'. -/
def fnExactBoxOkCard : Claim7 := { stood := { row := fnExactBoxOkRow, standIns := [], harness := (true, "5eb2ac239ac631d6bf947e2479333f805bf958acd96d5a96b04a69c8ff3423e1"), looks := true }, kinds := [], alts := [], laidByText := true, laidKinds := [.handle, .sentinel], laidTests := true, laidLooks := .later }
def FnExactBoxOkCardSaid : Prop := Claim7.holds Tryd.pinned (.plain (OpenSpec.ofChange fnExactBoxOkSpec)) fnExactBoxOkCard

/-- THE TIED CARD OF 'laws.FnExactBoxOf'. -/
def fnExactBoxOfCard : Claim7 := { stood := { row := fnExactBoxOfRow, standIns := [], harness := (true, "5eb2ac239ac631d6bf947e2479333f805bf958acd96d5a96b04a69c8ff3423e1"), looks := true }, kinds := [], alts := [], laidByText := true, laidKinds := [.handle, .sentinel], laidTests := true, laidLooks := .later }
def FnExactBoxOfCardSaid : Prop := Claim7.holds Tryd.pinned (.plain (OpenSpec.ofChange fnExactBoxOfSpec)) fnExactBoxOfCard

/-- THE TIED CARD OF 'laws.FnExactReadersOf'. -/
def fnExactReadersOfCard : Claim7 := { stood := { row := fnExactReadersOfRow, standIns := [], harness := (true, "5eb2ac239ac631d6bf947e2479333f805bf958acd96d5a96b04a69c8ff3423e1"), looks := true }, kinds := [], alts := [], laidByText := true, laidKinds := [.handle, .sentinel], laidTests := true, laidLooks := .later }
def FnExactReadersOfCardSaid : Prop := Claim7.holds Tryd.pinned (.plain (OpenSpec.ofChange fnExactReadersOfSpec)) fnExactReadersOfCard

/-- THE SECOND FORM's CARD OF 'laws.FnExactBoxOk'. -/
def fnExactBoxOkUptoCard : Claim7 := { stood := { row := fnExactBoxOkUptoRow, standIns := [], harness := (true, "5eb2ac239ac631d6bf947e2479333f805bf958acd96d5a96b04a69c8ff3423e1"), looks := true }, kinds := [], alts := [], laidByText := true, laidKinds := [.handle, .sentinel], laidTests := true, laidLooks := .later }
def FnExactBoxOkUptoCardSaid : Prop := Claim7.holds Tryd.pinned (.plain (OpenSpec.upto fnExactBoxOkSpec)) fnExactBoxOkUptoCard

/-- THE SECOND FORM's CARD OF 'laws.FnExactBoxOf'. -/
def fnExactBoxOfUptoCard : Claim7 := { stood := { row := fnExactBoxOfUptoRow, standIns := [], harness := (true, "5eb2ac239ac631d6bf947e2479333f805bf958acd96d5a96b04a69c8ff3423e1"), looks := true }, kinds := [], alts := [], laidByText := true, laidKinds := [.handle, .sentinel], laidTests := true, laidLooks := .later }
def FnExactBoxOfUptoCardSaid : Prop := Claim7.holds Tryd.pinned (.plain (OpenSpec.upto fnExactBoxOfSpec)) fnExactBoxOfUptoCard

/-- THE SECOND FORM's CARD OF 'laws.FnExactReadersOf'. -/
def fnExactReadersOfUptoCard : Claim7 := { stood := { row := fnExactReadersOfUptoRow, standIns := [], harness := (true, "5eb2ac239ac631d6bf947e2479333f805bf958acd96d5a96b04a69c8ff3423e1"), looks := true }, kinds := [], alts := [], laidByText := true, laidKinds := [.handle, .sentinel], laidTests := true, laidLooks := .later }
def FnExactReadersOfUptoCardSaid : Prop := Claim7.holds Tryd.pinned (.plain (OpenSpec.upto fnExactReadersOfSpec)) fnExactReadersOfUptoCard
end Rows
end Go.Proofs.YtcolcnkjcagbaaaDoor
