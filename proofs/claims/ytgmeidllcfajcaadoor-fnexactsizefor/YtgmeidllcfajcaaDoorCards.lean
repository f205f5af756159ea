/-
  DERIVED. GIVEN WITH THE SEED: THE CARDS: each row of YtgmeidllcfajcaaDoorRows.lean that lists a variable, with what it lists TIED to the program's text (the seventh form; the later family's looks); each row that meets fmt, with fmt's text TOLD by the authors' own Lean function (tested against real Go, not proved from fmt's source: count such statements apart). THE CARD IS WHAT COUNTS. Prove the row's statement (the work); the ties are given (YtgmeidllcfajcaaDoorTie.lean); close each card by the builder's one call (the guide's Derived/Test/ToyasCard.lean, 'card_holds'). Laid BY PROGRAM, IN A SANDBOX (cutbox-door.mjs). By AI agents, Wed Nov 11 2026. No macro, syntax, notation, axiom, sorry.
-/
import Derived.Test.YtgmeidllcfajcaaDoorRows
import GoSem.ClaimSeven
namespace Go.Proofs.YtgmeidllcfajcaaDoor
namespace Rows

/-- THE TIED CARD OF 'laws.FnExactSizeFor'. -/
def fnExactSizeForCard : Claim7 := { stood := { row := fnExactSizeForRow, standIns := [], harness := (true, "aada8139ef96ca00e684e861810e40c54332784f51892f0b0b71d45a5dfd1d9a"), looks := false }, kinds := [], alts := [], laidByText := true, laidKinds := [.data], laidTests := true, laidLooks := .later }
def FnExactSizeForCardSaid : Prop := Claim7.holds Tryd.pinned (.plain (OpenSpec.ofChange fnExactSizeForSpec)) fnExactSizeForCard

/-- THE TIED CARD OF 'laws.FnExactPadded'. -/
def fnExactPaddedCard : Claim7 := { stood := { row := fnExactPaddedRow, standIns := [], harness := (true, "aada8139ef96ca00e684e861810e40c54332784f51892f0b0b71d45a5dfd1d9a"), looks := false }, kinds := [], alts := [], laidByText := true, laidKinds := [.data], laidTests := true, laidLooks := .later }
def FnExactPaddedCardSaid : Prop := Claim7.holds Tryd.pinned (.plain (OpenSpec.ofChange fnExactPaddedSpec)) fnExactPaddedCard

/-- THE TIED CARD OF 'laws.FnExactUnpadded'. -/
def fnExactUnpaddedCard : Claim7 := { stood := { row := fnExactUnpaddedRow, standIns := [], harness := (true, "aada8139ef96ca00e684e861810e40c54332784f51892f0b0b71d45a5dfd1d9a"), looks := false }, kinds := [], alts := [], laidByText := true, laidKinds := [.data, .data, .pinned], laidTests := true, laidLooks := .later }
def FnExactUnpaddedCardSaid : Prop := Claim7.holds Tryd.pinned (.plain (OpenSpec.ofChange fnExactUnpaddedSpec)) fnExactUnpaddedCard

/-- THE TIED CARD OF 'laws.FnExactSum'. -/
def fnExactSumCard : Claim7 := { stood := { row := fnExactSumRow, standIns := [], harness := (true, "aada8139ef96ca00e684e861810e40c54332784f51892f0b0b71d45a5dfd1d9a"), looks := false }, kinds := [], alts := [], laidByText := true, laidKinds := [.data, .data], laidTests := true, laidLooks := .later }
def FnExactSumCardSaid : Prop := Claim7.holds Tryd.pinned (.plain (OpenSpec.ofChange fnExactSumSpec)) fnExactSumCard

/-- THE TIED CARD OF 'laws.FnExactSumText'. -/
def fnExactSumTextCard : Claim7 := { stood := { row := fnExactSumTextRow, standIns := [], harness := (true, "aada8139ef96ca00e684e861810e40c54332784f51892f0b0b71d45a5dfd1d9a"), looks := false }, kinds := [], alts := [], laidByText := true, laidKinds := [.data, .data], laidTests := true, laidLooks := .later }
def FnExactSumTextCardSaid : Prop := Claim7.holds Tryd.pinned (.plain (OpenSpec.ofChange fnExactSumTextSpec)) fnExactSumTextCard

/-- THE SECOND FORM's CARD OF 'laws.FnExactSizeFor'. -/
def fnExactSizeForUptoCard : Claim7 := { stood := { row := fnExactSizeForUptoRow, standIns := [], harness := (true, "aada8139ef96ca00e684e861810e40c54332784f51892f0b0b71d45a5dfd1d9a"), looks := false }, kinds := [], alts := [], laidByText := true, laidKinds := [.data], laidTests := true, laidLooks := .later }
def FnExactSizeForUptoCardSaid : Prop := Claim7.holds Tryd.pinned (.plain (OpenSpec.upto fnExactSizeForSpec)) fnExactSizeForUptoCard

/-- THE SECOND FORM's CARD OF 'laws.FnExactPadded'. -/
def fnExactPaddedUptoCard : Claim7 := { stood := { row := fnExactPaddedUptoRow, standIns := [], harness := (true, "aada8139ef96ca00e684e861810e40c54332784f51892f0b0b71d45a5dfd1d9a"), looks := false }, kinds := [], alts := [], laidByText := true, laidKinds := [.data], laidTests := true, laidLooks := .later }
def FnExactPaddedUptoCardSaid : Prop := Claim7.holds Tryd.pinned (.plain (OpenSpec.upto fnExactPaddedSpec)) fnExactPaddedUptoCard

/-- THE SECOND FORM's CARD OF 'laws.FnExactUnpadded'. -/
def fnExactUnpaddedUptoCard : Claim7 := { stood := { row := fnExactUnpaddedUptoRow, standIns := [], harness := (true, "aada8139ef96ca00e684e861810e40c54332784f51892f0b0b71d45a5dfd1d9a"), looks := false }, kinds := [], alts := [], laidByText := true, laidKinds := [.data, .data, .pinned], laidTests := true, laidLooks := .later }
def FnExactUnpaddedUptoCardSaid : Prop := Claim7.holds Tryd.pinned (.plain (OpenSpec.upto fnExactUnpaddedSpec)) fnExactUnpaddedUptoCard

/-- THE SECOND FORM's CARD OF 'laws.FnExactSum'. -/
def fnExactSumUptoCard : Claim7 := { stood := { row := fnExactSumUptoRow, standIns := [], harness := (true, "aada8139ef96ca00e684e861810e40c54332784f51892f0b0b71d45a5dfd1d9a"), looks := false }, kinds := [], alts := [], laidByText := true, laidKinds := [.data, .data], laidTests := true, laidLooks := .later }
def FnExactSumUptoCardSaid : Prop := Claim7.holds Tryd.pinned (.plain (OpenSpec.upto fnExactSumSpec)) fnExactSumUptoCard

/-- THE SECOND FORM's CARD OF 'laws.FnExactSumText'. -/
def fnExactSumTextUptoCard : Claim7 := { stood := { row := fnExactSumTextUptoRow, standIns := [], harness := (true, "aada8139ef96ca00e684e861810e40c54332784f51892f0b0b71d45a5dfd1d9a"), looks := false }, kinds := [], alts := [], laidByText := true, laidKinds := [.data, .data], laidTests := true, laidLooks := .later }
def FnExactSumTextUptoCardSaid : Prop := Claim7.holds Tryd.pinned (.plain (OpenSpec.upto fnExactSumTextSpec)) fnExactSumTextUptoCard
end Rows
end Go.Proofs.YtgmeidllcfajcaaDoor
