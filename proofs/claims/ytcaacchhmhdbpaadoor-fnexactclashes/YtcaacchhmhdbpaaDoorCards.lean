/-
  DERIVED. GIVEN WITH THE SEED: THE CARDS: each row of YtcaacchhmhdbpaaDoorRows.lean that lists a variable, with what it lists TIED to the program's text (the seventh form; the later family's looks); each row that meets fmt, with fmt's text TOLD by the authors' own Lean function (tested against real Go, not proved from fmt's source: count such statements apart). THE CARD IS WHAT COUNTS. Prove the row's statement (the work); the ties are given (YtcaacchhmhdbpaaDoorTie.lean); close each card by the builder's one call (the guide's Derived/Test/ToyasCard.lean, 'card_holds'). Laid BY PROGRAM, IN A SANDBOX (cutbox-door.mjs). By AI agents, Wed Nov 11 2026. No macro, syntax, notation, axiom, sorry.
-/
import Derived.Test.YtcaacchhmhdbpaaDoorRows
import GoSem.ClaimSeven
namespace Go.Proofs.YtcaacchhmhdbpaaDoor
namespace Rows

/-- THE TIED CARD OF 'laws.FnExactCommitsOk'. -/
def fnExactCommitsOkCard : Claim7 := { stood := { row := fnExactCommitsOkRow, standIns := [], harness := (true, "ed1f2dd7581b6404a71f89407f24ef40eef31bcb00b3d3d44222c311ace73807"), looks := false }, kinds := [], alts := [], laidByText := true, laidKinds := [.data, .pinned], laidTests := true, laidLooks := .later }
def FnExactCommitsOkCardSaid : Prop := Claim7.holds Tryd.pinned (.plain (OpenSpec.ofChange fnExactCommitsOkSpec)) fnExactCommitsOkCard

/-- THE TIED CARD OF 'laws.FnExactClashes'. -/
def fnExactClashesCard : Claim7 := { stood := { row := fnExactClashesRow, standIns := [], harness := (true, "ed1f2dd7581b6404a71f89407f24ef40eef31bcb00b3d3d44222c311ace73807"), looks := false }, kinds := [], alts := [], laidByText := true, laidKinds := [.data, .pinned], laidTests := true, laidLooks := .later }
def FnExactClashesCardSaid : Prop := Claim7.holds Tryd.pinned (.plain (OpenSpec.ofChange fnExactClashesSpec)) fnExactClashesCard

/-- THE SECOND FORM's CARD OF 'laws.FnExactCommitsOk'. -/
def fnExactCommitsOkUptoCard : Claim7 := { stood := { row := fnExactCommitsOkUptoRow, standIns := [], harness := (true, "ed1f2dd7581b6404a71f89407f24ef40eef31bcb00b3d3d44222c311ace73807"), looks := false }, kinds := [], alts := [], laidByText := true, laidKinds := [.data, .pinned], laidTests := true, laidLooks := .later }
def FnExactCommitsOkUptoCardSaid : Prop := Claim7.holds Tryd.pinned (.plain (OpenSpec.upto fnExactCommitsOkSpec)) fnExactCommitsOkUptoCard

/-- THE SECOND FORM's CARD OF 'laws.FnExactClashes'. -/
def fnExactClashesUptoCard : Claim7 := { stood := { row := fnExactClashesUptoRow, standIns := [], harness := (true, "ed1f2dd7581b6404a71f89407f24ef40eef31bcb00b3d3d44222c311ace73807"), looks := false }, kinds := [], alts := [], laidByText := true, laidKinds := [.data, .pinned], laidTests := true, laidLooks := .later }
def FnExactClashesUptoCardSaid : Prop := Claim7.holds Tryd.pinned (.plain (OpenSpec.upto fnExactClashesSpec)) fnExactClashesUptoCard
end Rows
end Go.Proofs.YtcaacchhmhdbpaaDoor
