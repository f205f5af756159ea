/-
  No cell of these rows narrows 'for every input' (looked for: loops, veiled, ifaces, maps, wideKeys, modest, calm, conditions, laid).
  DERIVED. THE GIVEN ROWS OF THIS SEAT. 6 by the template 'for every input the law returns true; each argument reads behind the call as it read before'; 0 by the template 'total and deterministic' (their statements: YtmlikcblfkkpjaaTotals.lean).
  GIVEN WITH THE SEED: the statements are not yours to turn. If you find one false, say at which input.
  Laid BY PROGRAM, IN A SANDBOX (cutbox-rows.mjs): the forced cells as the released guide's own fill.sh prints them over the translation c0506a7730d07477… (all of the seat's roots in one cut). By AI agents, Wed Nov 11 2026. No macro, syntax, notation, axiom, sorry.
-/
import Derived.Test.YtmlikcblfkkpjaaChecked
import GoSem.Claim
import GoSem.ClaimJoined
import GoSem.ClaimMapViews
import Derived.JoinedTies
import Derived.KernelRfl
namespace Go.Proofs.Ytmlikcblfkkpjaa
/- THE CELL 'sum', in the pinned program and in every row, IS THE sha256 OF THE DUMP (.gsa) THAT YtmlikcblfkkpjaaProg.lean LOADS. Nothing in Lean hashes anything: it is a label: what it is worth is what the hold of that sum in a sandbox is worth. -/
noncomputable def Try.pinned : Pinned := { name := "ytmlikcblfkkpjaa", sum := "c0506a7730d074772db7fefc74107b01e9b2f091ca5c93e2c5fcdf7c5acd0776", checked := Try.checked }
namespace Rows
def none {H : Type} : Left H := { results := [], args := [] }

/-- 'laws.FnExactSeqIds': WHATEVER THE INPUT: true; the input reads as it did. -/
def fnExactSeqIdsSpec : ChangeSpec := { name := "fnExactSeqIds", fn := fun _ => fun
  | [d] => { results := [.lit (.bool true)], args := [d] }
  | _ => none }
def fnExactSeqIdsRow : OpenClaim := { program := "ytmlikcblfkkpjaa", sum := "c0506a7730d074772db7fefc74107b01e9b2f091ca5c93e2c5fcdf7c5acd0776", func := "loop.example/g00318/laws.FnExactSeqIds", spec := "fnExactSeqIds", unfollowed := true, recurses := true, apart := false }
def FnExactSeqIdsSaid : Prop := fnExactSeqIdsRow.holds Try.pinned (OpenSpec.ofChange fnExactSeqIdsSpec)

/-- ITS FALSE NEIGHBOUR: 'it returns false'. Refute it at one input. -/
def fnExactSeqIdsWrong : ChangeSpec := { name := "fnExactSeqIds", fn := fun _ => fun
  | [d] => { results := [.lit (.bool false)], args := [d] }
  | _ => none }
def FnExactSeqIdsWrongFalsely : Prop := fnExactSeqIdsRow.holds Try.pinned (OpenSpec.ofChange fnExactSeqIdsWrong)

/-- 'laws.FnExactSeqText': WHATEVER THE INPUT: true; the input reads as it did. -/
def fnExactSeqTextSpec : ChangeSpec := { name := "fnExactSeqText", fn := fun _ => fun
  | [d] => { results := [.lit (.bool true)], args := [d] }
  | _ => none }
def fnExactSeqTextRow : OpenClaim := { program := "ytmlikcblfkkpjaa", sum := "c0506a7730d074772db7fefc74107b01e9b2f091ca5c93e2c5fcdf7c5acd0776", func := "loop.example/g00318/laws.FnExactSeqText", spec := "fnExactSeqText", inPlace := ["internal/abi.NoEscape"], unfollowed := true, recurses := true, apart := false }
def FnExactSeqTextSaid : Prop := fnExactSeqTextRow.holds Try.pinned (OpenSpec.ofChange fnExactSeqTextSpec)

/-- ITS FALSE NEIGHBOUR: 'it returns false'. Refute it at one input. -/
def fnExactSeqTextWrong : ChangeSpec := { name := "fnExactSeqText", fn := fun _ => fun
  | [d] => { results := [.lit (.bool false)], args := [d] }
  | _ => none }
def FnExactSeqTextWrongFalsely : Prop := fnExactSeqTextRow.holds Try.pinned (OpenSpec.ofChange fnExactSeqTextWrong)

/-- 'laws.FnExactSeqInserted': WHATEVER THE INPUT: true; the input reads as it did. -/
def fnExactSeqInsertedSpec : ChangeSpec := { name := "fnExactSeqInserted", fn := fun _ => fun
  | [d1, d2, d3, d4] => { results := [.lit (.bool true)], args := [d1, d2, d3, d4] }
  | _ => none }
def fnExactSeqInsertedRow : OpenClaim := { program := "ytmlikcblfkkpjaa", sum := "c0506a7730d074772db7fefc74107b01e9b2f091ca5c93e2c5fcdf7c5acd0776", func := "loop.example/g00318/laws.FnExactSeqInserted", spec := "fnExactSeqInserted", unfollowed := true, recurses := true, apart := false }
def FnExactSeqInsertedSaid : Prop := fnExactSeqInsertedRow.holds Try.pinned (OpenSpec.ofChange fnExactSeqInsertedSpec)

/-- ITS FALSE NEIGHBOUR: 'it returns false'. Refute it at one input. -/
def fnExactSeqInsertedWrong : ChangeSpec := { name := "fnExactSeqInserted", fn := fun _ => fun
  | [d1, d2, d3, d4] => { results := [.lit (.bool false)], args := [d1, d2, d3, d4] }
  | _ => none }
def FnExactSeqInsertedWrongFalsely : Prop := fnExactSeqInsertedRow.holds Try.pinned (OpenSpec.ofChange fnExactSeqInsertedWrong)

/-- 'laws.FnExactSeqDeleted': WHATEVER THE INPUT: true; the input reads as it did. -/
def fnExactSeqDeletedSpec : ChangeSpec := { name := "fnExactSeqDeleted", fn := fun _ => fun
  | [d1, d2, d3] => { results := [.lit (.bool true)], args := [d1, d2, d3] }
  | _ => none }
def fnExactSeqDeletedRow : OpenClaim := { program := "ytmlikcblfkkpjaa", sum := "c0506a7730d074772db7fefc74107b01e9b2f091ca5c93e2c5fcdf7c5acd0776", func := "loop.example/g00318/laws.FnExactSeqDeleted", spec := "fnExactSeqDeleted", unfollowed := true, recurses := true, apart := false }
def FnExactSeqDeletedSaid : Prop := fnExactSeqDeletedRow.holds Try.pinned (OpenSpec.ofChange fnExactSeqDeletedSpec)

/-- ITS FALSE NEIGHBOUR: 'it returns false'. Refute it at one input. -/
def fnExactSeqDeletedWrong : ChangeSpec := { name := "fnExactSeqDeleted", fn := fun _ => fun
  | [d1, d2, d3] => { results := [.lit (.bool false)], args := [d1, d2, d3] }
  | _ => none }
def FnExactSeqDeletedWrongFalsely : Prop := fnExactSeqDeletedRow.holds Try.pinned (OpenSpec.ofChange fnExactSeqDeletedWrong)

/-- 'laws.FnExactSeqTurned': WHATEVER THE INPUT: true; the input reads as it did. -/
def fnExactSeqTurnedSpec : ChangeSpec := { name := "fnExactSeqTurned", fn := fun _ => fun
  | [d1, d2, d3] => { results := [.lit (.bool true)], args := [d1, d2, d3] }
  | _ => none }
def fnExactSeqTurnedRow : OpenClaim := { program := "ytmlikcblfkkpjaa", sum := "c0506a7730d074772db7fefc74107b01e9b2f091ca5c93e2c5fcdf7c5acd0776", func := "loop.example/g00318/laws.FnExactSeqTurned", spec := "fnExactSeqTurned", inPlace := ["internal/abi.NoEscape"], unfollowed := true, recurses := true, apart := false }
def FnExactSeqTurnedSaid : Prop := fnExactSeqTurnedRow.holds Try.pinned (OpenSpec.ofChange fnExactSeqTurnedSpec)

/-- ITS FALSE NEIGHBOUR: 'it returns false'. Refute it at one input. -/
def fnExactSeqTurnedWrong : ChangeSpec := { name := "fnExactSeqTurned", fn := fun _ => fun
  | [d1, d2, d3] => { results := [.lit (.bool false)], args := [d1, d2, d3] }
  | _ => none }
def FnExactSeqTurnedWrongFalsely : Prop := fnExactSeqTurnedRow.holds Try.pinned (OpenSpec.ofChange fnExactSeqTurnedWrong)

/-- 'laws.FnExactSeqOk': WHATEVER THE INPUT: true; the input reads as it did. -/
def fnExactSeqOkSpec : ChangeSpec := { name := "fnExactSeqOk", fn := fun _ => fun
  | [d] => { results := [.lit (.bool true)], args := [d] }
  | _ => none }
def fnExactSeqOkRow : OpenClaim := { program := "ytmlikcblfkkpjaa", sum := "c0506a7730d074772db7fefc74107b01e9b2f091ca5c93e2c5fcdf7c5acd0776", func := "loop.example/g00318/laws.FnExactSeqOk", spec := "fnExactSeqOk", apart := false }
def FnExactSeqOkSaid : Prop := fnExactSeqOkRow.holds Try.pinned (OpenSpec.ofChange fnExactSeqOkSpec)

/-- ITS FALSE NEIGHBOUR: 'it returns false'. Refute it at one input. -/
def fnExactSeqOkWrong : ChangeSpec := { name := "fnExactSeqOk", fn := fun _ => fun
  | [d] => { results := [.lit (.bool false)], args := [d] }
  | _ => none }
def FnExactSeqOkWrongFalsely : Prop := fnExactSeqOkRow.holds Try.pinned (OpenSpec.ofChange fnExactSeqOkWrong)

/- THE SECOND FORM. 'bulk': how many values and letters a reading holds, each counted each time it is reached (what is shared counts as often as it is met; a slice's spare places count too). A statement '..UptoSaid' is the law's where the arguments, and the package variables that the reading takes, are together of bulk at most 1048576: NARROWER than '..Said'. Prove '..Said' where nothing that the law and all that it calls make is longer than what came in: it says more and counts as full. Else prove '..UptoSaid'. A law counts once. -/
mutual
def uptoBulk {H : Type} : DataW H → Nat
  | .lit (.string bytes) => bytes.length + 1
  | .lit _ => 1
  | .nil => 1
  | .ptr d => uptoBulk d + 1
  | .slice elems spare => uptoBulkAll elems + uptoBulkAll spare + 1
  | .agg parts => uptoBulkAll parts + 1
  | .iface _ d => uptoBulk d + 1
  | .map entries => uptoBulkEntries entries + 1
  | .held _ => 1
def uptoBulkAll {H : Type} : List (DataW H) → Nat
  | [] => 0
  | d :: r => uptoBulk d + uptoBulkAll r
def uptoBulkEntries {H : Type} : List (Lit × DataW H) → Nat
  | [] => 0
  | x :: r => uptoBulkEntry x + uptoBulkEntries r
def uptoBulkEntry {H : Type} : Lit × DataW H → Nat
  | (.string bytes, d) => bytes.length + uptoBulk d + 1
  | (_, d) => uptoBulk d + 1
 end
def uptoSmall : (H : Type) → List (DataW H) → Bool := fun _ ds => decide (uptoBulkAll ds ≤ 1048576)
def OpenSpec.upto (s : _root_.Go.ChangeSpec) : _root_.Go.OpenSpec := { _root_.Go.OpenSpec.ofChange s with cond := some uptoSmall }

/-- 'laws.FnExactSeqIds', WHERE WHAT IT READS IS OF BULK AT MOST 1048576: true; the input reads as it did. -/
def fnExactSeqIdsUptoRow : OpenClaim := { program := "ytmlikcblfkkpjaa", sum := "c0506a7730d074772db7fefc74107b01e9b2f091ca5c93e2c5fcdf7c5acd0776", func := "loop.example/g00318/laws.FnExactSeqIds", spec := "fnExactSeqIds", unfollowed := true, recurses := true, apart := false, narrowed := true }
def FnExactSeqIdsUptoSaid : Prop := fnExactSeqIdsUptoRow.holds Try.pinned (OpenSpec.upto fnExactSeqIdsSpec)

/-- 'laws.FnExactSeqText', WHERE WHAT IT READS IS OF BULK AT MOST 1048576: true; the input reads as it did. -/
def fnExactSeqTextUptoRow : OpenClaim := { program := "ytmlikcblfkkpjaa", sum := "c0506a7730d074772db7fefc74107b01e9b2f091ca5c93e2c5fcdf7c5acd0776", func := "loop.example/g00318/laws.FnExactSeqText", spec := "fnExactSeqText", inPlace := ["internal/abi.NoEscape"], unfollowed := true, recurses := true, apart := false, narrowed := true }
def FnExactSeqTextUptoSaid : Prop := fnExactSeqTextUptoRow.holds Try.pinned (OpenSpec.upto fnExactSeqTextSpec)

/-- 'laws.FnExactSeqInserted', WHERE WHAT IT READS IS OF BULK AT MOST 1048576: true; the input reads as it did. -/
def fnExactSeqInsertedUptoRow : OpenClaim := { program := "ytmlikcblfkkpjaa", sum := "c0506a7730d074772db7fefc74107b01e9b2f091ca5c93e2c5fcdf7c5acd0776", func := "loop.example/g00318/laws.FnExactSeqInserted", spec := "fnExactSeqInserted", unfollowed := true, recurses := true, apart := false, narrowed := true }
def FnExactSeqInsertedUptoSaid : Prop := fnExactSeqInsertedUptoRow.holds Try.pinned (OpenSpec.upto fnExactSeqInsertedSpec)

/-- 'laws.FnExactSeqDeleted', WHERE WHAT IT READS IS OF BULK AT MOST 1048576: true; the input reads as it did. -/
def fnExactSeqDeletedUptoRow : OpenClaim := { program := "ytmlikcblfkkpjaa", sum := "c0506a7730d074772db7fefc74107b01e9b2f091ca5c93e2c5fcdf7c5acd0776", func := "loop.example/g00318/laws.FnExactSeqDeleted", spec := "fnExactSeqDeleted", unfollowed := true, recurses := true, apart := false, narrowed := true }
def FnExactSeqDeletedUptoSaid : Prop := fnExactSeqDeletedUptoRow.holds Try.pinned (OpenSpec.upto fnExactSeqDeletedSpec)

/-- 'laws.FnExactSeqTurned', WHERE WHAT IT READS IS OF BULK AT MOST 1048576: true; the input reads as it did. -/
def fnExactSeqTurnedUptoRow : OpenClaim := { program := "ytmlikcblfkkpjaa", sum := "c0506a7730d074772db7fefc74107b01e9b2f091ca5c93e2c5fcdf7c5acd0776", func := "loop.example/g00318/laws.FnExactSeqTurned", spec := "fnExactSeqTurned", inPlace := ["internal/abi.NoEscape"], unfollowed := true, recurses := true, apart := false, narrowed := true }
def FnExactSeqTurnedUptoSaid : Prop := fnExactSeqTurnedUptoRow.holds Try.pinned (OpenSpec.upto fnExactSeqTurnedSpec)

/-- 'laws.FnExactSeqOk', WHERE WHAT IT READS IS OF BULK AT MOST 1048576: true; the input reads as it did. -/
def fnExactSeqOkUptoRow : OpenClaim := { program := "ytmlikcblfkkpjaa", sum := "c0506a7730d074772db7fefc74107b01e9b2f091ca5c93e2c5fcdf7c5acd0776", func := "loop.example/g00318/laws.FnExactSeqOk", spec := "fnExactSeqOk", apart := false, narrowed := true }
def FnExactSeqOkUptoSaid : Prop := fnExactSeqOkUptoRow.holds Try.pinned (OpenSpec.upto fnExactSeqOkSpec)

end Rows
end Go.Proofs.Ytmlikcblfkkpjaa
