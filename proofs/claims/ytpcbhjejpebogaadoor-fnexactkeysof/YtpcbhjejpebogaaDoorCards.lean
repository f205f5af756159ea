/-
  DERIVED. GIVEN WITH THE SEED: THE CARDS: each row of YtpcbhjejpebogaaDoorRows.lean that lists a variable, with what it lists TIED to the program's text (the seventh form; the later family's looks); each row that meets fmt, with fmt's text TOLD by the authors' own Lean function (tested against real Go, not proved from fmt's source: count such statements apart). THE CARD IS WHAT COUNTS. Prove the row's statement (the work); the ties are given (YtpcbhjejpebogaaDoorTie.lean); close each card by the builder's one call (the guide's Derived/Test/ToyasCard.lean, 'card_holds'). Laid BY PROGRAM, IN A SANDBOX (cutbox-door.mjs). By AI agents, Wed Nov 11 2026. No macro, syntax, notation, axiom, sorry.
-/
import Derived.Test.YtpcbhjejpebogaaDoorRows
import GoSem.ClaimSeven
namespace Go.Proofs.YtpcbhjejpebogaaDoor
namespace Rows

/-- THE TIED CARD OF 'laws.FnExactOpened'. -/
def fnExactOpenedCard : Claim7 := { stood := { row := fnExactOpenedRow, standIns := [], harness := (true, "f8ceb9db541c1b2516d401c3dc418c8c7be7d44dab715528d64ba2aee254591f"), looks := true }, kinds := [], alts := [], laidByText := true, laidKinds := [.data, .data, .data], laidTests := true, laidLooks := .later }
def FnExactOpenedCardSaid : Prop := Claim7.holds Tryd.pinned (.plain (OpenSpec.ofChange fnExactOpenedSpec)) fnExactOpenedCard

/-- THE TIED CARD OF 'laws.FnExactCanMake'. -/
def fnExactCanMakeCard : Claim7 := { stood := { row := fnExactCanMakeRow, standIns := [], harness := (true, "f8ceb9db541c1b2516d401c3dc418c8c7be7d44dab715528d64ba2aee254591f"), looks := true }, kinds := [], alts := [], laidByText := true, laidKinds := [.data, .data, .data], laidTests := true, laidLooks := .later }
def FnExactCanMakeCardSaid : Prop := Claim7.holds Tryd.pinned (.plain (OpenSpec.ofChange fnExactCanMakeSpec)) fnExactCanMakeCard

/-- THE TIED CARD OF 'laws.FnExactKeysOf'. -/
def fnExactKeysOfCard : Claim7 := { stood := { row := fnExactKeysOfRow, standIns := [], harness := (true, "f8ceb9db541c1b2516d401c3dc418c8c7be7d44dab715528d64ba2aee254591f"), looks := true }, kinds := [], alts := [], laidByText := true, laidKinds := [.data, .data, .data], laidTests := true, laidLooks := .later }
def FnExactKeysOfCardSaid : Prop := Claim7.holds Tryd.pinned (.plain (OpenSpec.ofChange fnExactKeysOfSpec)) fnExactKeysOfCard

/-- THE TIED CARD OF 'laws.FnCut'. -/
def fnCutCard : Claim7 := { stood := { row := fnCutRow, standIns := [], harness := (true, "f8ceb9db541c1b2516d401c3dc418c8c7be7d44dab715528d64ba2aee254591f"), looks := true }, kinds := [], alts := [], laidByText := true, laidKinds := [.data, .data, .data], laidTests := true, laidLooks := .later }
def FnCutCardSaid : Prop := Claim7.holds Tryd.pinned (.plain (OpenSpec.ofChange fnCutSpec)) fnCutCard

/-- THE TIED CARD OF 'laws.FnSecret'. -/
def fnSecretCard : Claim7 := { stood := { row := fnSecretRow, standIns := [], harness := (true, "f8ceb9db541c1b2516d401c3dc418c8c7be7d44dab715528d64ba2aee254591f"), looks := true }, kinds := [], alts := [], laidByText := true, laidKinds := [.data, .data, .data], laidTests := true, laidLooks := .later }
def FnSecretCardSaid : Prop := Claim7.holds Tryd.pinned (.plain (OpenSpec.ofChange fnSecretSpec)) fnSecretCard

/-- THE SECOND FORM's CARD OF 'laws.FnExactOpened'. -/
def fnExactOpenedUptoCard : Claim7 := { stood := { row := fnExactOpenedUptoRow, standIns := [], harness := (true, "f8ceb9db541c1b2516d401c3dc418c8c7be7d44dab715528d64ba2aee254591f"), looks := true }, kinds := [], alts := [], laidByText := true, laidKinds := [.data, .data, .data], laidTests := true, laidLooks := .later }
def FnExactOpenedUptoCardSaid : Prop := Claim7.holds Tryd.pinned (.plain (OpenSpec.upto fnExactOpenedSpec)) fnExactOpenedUptoCard

/-- THE SECOND FORM's CARD OF 'laws.FnExactCanMake'. -/
def fnExactCanMakeUptoCard : Claim7 := { stood := { row := fnExactCanMakeUptoRow, standIns := [], harness := (true, "f8ceb9db541c1b2516d401c3dc418c8c7be7d44dab715528d64ba2aee254591f"), looks := true }, kinds := [], alts := [], laidByText := true, laidKinds := [.data, .data, .data], laidTests := true, laidLooks := .later }
def FnExactCanMakeUptoCardSaid : Prop := Claim7.holds Tryd.pinned (.plain (OpenSpec.upto fnExactCanMakeSpec)) fnExactCanMakeUptoCard

/-- THE SECOND FORM's CARD OF 'laws.FnExactKeysOf'. -/
def fnExactKeysOfUptoCard : Claim7 := { stood := { row := fnExactKeysOfUptoRow, standIns := [], harness := (true, "f8ceb9db541c1b2516d401c3dc418c8c7be7d44dab715528d64ba2aee254591f"), looks := true }, kinds := [], alts := [], laidByText := true, laidKinds := [.data, .data, .data], laidTests := true, laidLooks := .later }
def FnExactKeysOfUptoCardSaid : Prop := Claim7.holds Tryd.pinned (.plain (OpenSpec.upto fnExactKeysOfSpec)) fnExactKeysOfUptoCard

/-- THE SECOND FORM's CARD OF 'laws.FnCut'. -/
def fnCutUptoCard : Claim7 := { stood := { row := fnCutUptoRow, standIns := [], harness := (true, "f8ceb9db541c1b2516d401c3dc418c8c7be7d44dab715528d64ba2aee254591f"), looks := true }, kinds := [], alts := [], laidByText := true, laidKinds := [.data, .data, .data], laidTests := true, laidLooks := .later }
def FnCutUptoCardSaid : Prop := Claim7.holds Tryd.pinned (.plain (OpenSpec.upto fnCutSpec)) fnCutUptoCard

/-- THE SECOND FORM's CARD OF 'laws.FnSecret'. -/
def fnSecretUptoCard : Claim7 := { stood := { row := fnSecretUptoRow, standIns := [], harness := (true, "f8ceb9db541c1b2516d401c3dc418c8c7be7d44dab715528d64ba2aee254591f"), looks := true }, kinds := [], alts := [], laidByText := true, laidKinds := [.data, .data, .data], laidTests := true, laidLooks := .later }
def FnSecretUptoCardSaid : Prop := Claim7.holds Tryd.pinned (.plain (OpenSpec.upto fnSecretSpec)) fnSecretUptoCard
end Rows
end Go.Proofs.YtpcbhjejpebogaaDoor
