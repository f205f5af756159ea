/-
  DERIVED. GIVEN WITH THE SEED: THE CARDS: each row of YtmnfpelngohcfaaGreatDoorRows.lean that lists a variable, with what it lists TIED to the program's text (the seventh form; the later family's looks); each row that meets fmt, with fmt's text TOLD by the authors' own Lean function (tested against real Go, not proved from fmt's source: count such statements apart). THE CARD IS WHAT COUNTS. Prove the row's statement (the work); the ties are given (YtmnfpelngohcfaaGreatDoorTie.lean); close each card by the builder's one call (the guide's Derived/Test/ToyasCard.lean, 'card_holds'). Laid BY PROGRAM, IN A SANDBOX (cutbox-door.mjs). By AI agents, Wed Nov 11 2026. No macro, syntax, notation, axiom, sorry.
-/
import Derived.Test.YtmnfpelngohcfaaGreatDoorRows
import GoSem.ClaimSeven
namespace Go.Proofs.YtmnfpelngohcfaaGreatDoor
namespace Rows

/-- THE TIED CARD OF 'laws.FnExactDagText'. -/
def fnExactDagTextCard : Claim7 := { stood := { row := fnExactDagTextRow, standIns := [], harness := (true, "9fb353b569c153840954dafc9b45b821bb0edfa7430c07d25446bad33da6a604"), looks := false }, kinds := [], alts := [], laidByText := true, laidKinds := [.data, .data, .data, .data, .data, .data, .pinned], laidTests := true, laidLooks := .later }
def FnExactDagTextCardSaid : Prop := Claim7.holds Tryz.pinned (.plain (OpenSpec.ofChange fnExactDagTextSpec)) fnExactDagTextCard

/-- THE TIED CARD OF 'laws.FnExactCountsOf'. -/
def fnExactCountsOfCard : Claim7 := { stood := { row := fnExactCountsOfRow, standIns := [], harness := (true, "9fb353b569c153840954dafc9b45b821bb0edfa7430c07d25446bad33da6a604"), looks := false }, kinds := [], alts := [], laidByText := true, laidKinds := [.data, .data, .data, .data, .data, .data, .pinned], laidTests := true, laidLooks := .later }
def FnExactCountsOfCardSaid : Prop := Claim7.holds Tryz.pinned (.plain (OpenSpec.ofChange fnExactCountsOfSpec)) fnExactCountsOfCard

/-- THE SECOND FORM's CARD OF 'laws.FnExactDagText'. -/
def fnExactDagTextUptoCard : Claim7 := { stood := { row := fnExactDagTextUptoRow, standIns := [], harness := (true, "9fb353b569c153840954dafc9b45b821bb0edfa7430c07d25446bad33da6a604"), looks := false }, kinds := [], alts := [], laidByText := true, laidKinds := [.data, .data, .data, .data, .data, .data, .pinned], laidTests := true, laidLooks := .later }
def FnExactDagTextUptoCardSaid : Prop := Claim7.holds Tryz.pinned (.plain (OpenSpec.upto fnExactDagTextSpec)) fnExactDagTextUptoCard

/-- THE SECOND FORM's CARD OF 'laws.FnExactCountsOf'. -/
def fnExactCountsOfUptoCard : Claim7 := { stood := { row := fnExactCountsOfUptoRow, standIns := [], harness := (true, "9fb353b569c153840954dafc9b45b821bb0edfa7430c07d25446bad33da6a604"), looks := false }, kinds := [], alts := [], laidByText := true, laidKinds := [.data, .data, .data, .data, .data, .data, .pinned], laidTests := true, laidLooks := .later }
def FnExactCountsOfUptoCardSaid : Prop := Claim7.holds Tryz.pinned (.plain (OpenSpec.upto fnExactCountsOfSpec)) fnExactCountsOfUptoCard
end Rows
end Go.Proofs.YtmnfpelngohcfaaGreatDoor
