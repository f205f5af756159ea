/-
  No cell of these rows narrows 'for every input' (looked for: loops, veiled, ifaces, maps, wideKeys, modest, calm, conditions, laid).
  DERIVED. THE GIVEN ROWS OF THIS SEAT. 3 by the template 'for every input the law returns true; each argument reads behind the call as it read before'; 0 by the template 'total and deterministic' (their statements: YtpjeccnhgoegkaaTotals.lean).
  GIVEN WITH THE SEED: the statements are not yours to turn. If you find one false, say at which input.
  Laid BY PROGRAM, IN A SANDBOX (cutbox-rows.mjs): the forced cells as the released guide's own fill.sh prints them over the translation f945ff7340be2695… (all of the seat's roots in one cut). By AI agents, Wed Nov 11 2026. No macro, syntax, notation, axiom, sorry.
-/
import Derived.Test.YtpjeccnhgoegkaaChecked
import GoSem.Claim
import GoSem.ClaimJoined
import GoSem.ClaimMapViews
import Derived.JoinedTies
import Derived.KernelRfl
namespace Go.Proofs.Ytpjeccnhgoegkaa
/- THE CELL 'sum', in the pinned program and in every row, IS THE sha256 OF THE DUMP (.gsa) THAT YtpjeccnhgoegkaaProg.lean LOADS. Nothing in Lean hashes anything: it is a label: what it is worth is what the hold of that sum in a sandbox is worth. -/
noncomputable def Try.pinned : Pinned := { name := "ytpjeccnhgoegkaa", sum := "f945ff7340be26950d107128d947ca3977c320fb168c4c16e903666514a437f9", checked := Try.checked }
namespace Rows
def none {H : Type} : Left H := { results := [], args := [] }

/-- 'laws.FnSeqDeleted': WHATEVER THE INPUT: true; the input reads as it did. -/
def fnSeqDeletedSpec : ChangeSpec := { name := "fnSeqDeleted", fn := fun _ => fun
  | [d] => { results := [.lit (.bool true)], args := [d] }
  | _ => none }
def fnSeqDeletedRow : OpenClaim := { program := "ytpjeccnhgoegkaa", sum := "f945ff7340be26950d107128d947ca3977c320fb168c4c16e903666514a437f9", func := "loop.example/g00318/laws.FnSeqDeleted", spec := "fnSeqDeleted", inPlace := ["internal/abi.NoEscape"], unfollowed := true, recurses := true, apart := false }
def FnSeqDeletedSaid : Prop := fnSeqDeletedRow.holds Try.pinned (OpenSpec.ofChange fnSeqDeletedSpec)

/-- ITS FALSE NEIGHBOUR: 'it returns false'. Refute it at one input. -/
def fnSeqDeletedWrong : ChangeSpec := { name := "fnSeqDeleted", fn := fun _ => fun
  | [d] => { results := [.lit (.bool false)], args := [d] }
  | _ => none }
def FnSeqDeletedWrongFalsely : Prop := fnSeqDeletedRow.holds Try.pinned (OpenSpec.ofChange fnSeqDeletedWrong)

/-- 'laws.FnSeqInserted': WHATEVER THE INPUT: true; the input reads as it did. -/
def fnSeqInsertedSpec : ChangeSpec := { name := "fnSeqInserted", fn := fun _ => fun
  | [d] => { results := [.lit (.bool true)], args := [d] }
  | _ => none }
def fnSeqInsertedRow : OpenClaim := { program := "ytpjeccnhgoegkaa", sum := "f945ff7340be26950d107128d947ca3977c320fb168c4c16e903666514a437f9", func := "loop.example/g00318/laws.FnSeqInserted", spec := "fnSeqInserted", inPlace := ["internal/abi.NoEscape"], unfollowed := true, recurses := true, apart := false }
def FnSeqInsertedSaid : Prop := fnSeqInsertedRow.holds Try.pinned (OpenSpec.ofChange fnSeqInsertedSpec)

/-- ITS FALSE NEIGHBOUR: 'it returns false'. Refute it at one input. -/
def fnSeqInsertedWrong : ChangeSpec := { name := "fnSeqInserted", fn := fun _ => fun
  | [d] => { results := [.lit (.bool false)], args := [d] }
  | _ => none }
def FnSeqInsertedWrongFalsely : Prop := fnSeqInsertedRow.holds Try.pinned (OpenSpec.ofChange fnSeqInsertedWrong)

/-- 'laws.FnSeqText': WHATEVER THE INPUT: true; the input reads as it did. -/
def fnSeqTextSpec : ChangeSpec := { name := "fnSeqText", fn := fun _ => fun
  | [d] => { results := [.lit (.bool true)], args := [d] }
  | _ => none }
def fnSeqTextRow : OpenClaim := { program := "ytpjeccnhgoegkaa", sum := "f945ff7340be26950d107128d947ca3977c320fb168c4c16e903666514a437f9", func := "loop.example/g00318/laws.FnSeqText", spec := "fnSeqText", inPlace := ["internal/abi.NoEscape"], unfollowed := true, recurses := true, apart := false }
def FnSeqTextSaid : Prop := fnSeqTextRow.holds Try.pinned (OpenSpec.ofChange fnSeqTextSpec)

/-- ITS FALSE NEIGHBOUR: 'it returns false'. Refute it at one input. -/
def fnSeqTextWrong : ChangeSpec := { name := "fnSeqText", fn := fun _ => fun
  | [d] => { results := [.lit (.bool false)], args := [d] }
  | _ => none }
def FnSeqTextWrongFalsely : Prop := fnSeqTextRow.holds Try.pinned (OpenSpec.ofChange fnSeqTextWrong)

/- THE SECOND FORM. 'bulk': how many values and letters a reading holds, each counted each time it is reached (what is shared counts as often as it is met; a slice's spare places count too). A statement '..UptoSaid' is the law's where the arguments, and the package variables that the reading takes, are together of bulk at most 1048576: NARROWER than '..Said'. Prove '..Said' where nothing that the law and all that it calls make is longer than what came in: it says more and counts as full. Else prove '..UptoSaid'. A law counts once. -/
mutual
def uptoBulk {H : Type} : DataW H → Nat
  | .lit (.string bytes) => bytes.length + 1
  | .lit _ => 1
  | .nil => 1
  | .ptr d => uptoBulk d + 1
  | .slice elems spare => uptoBulkAll elems + uptoBulkAll spare + 1
  | .agg parts => uptoBulkAll parts + 1
  | .iface _ d => uptoBulk d + 1
  | .map entries => uptoBulkEntries entries + 1
  | .held _ => 1
def uptoBulkAll {H : Type} : List (DataW H) → Nat
  | [] => 0
  | d :: r => uptoBulk d + uptoBulkAll r
def uptoBulkEntries {H : Type} : List (Lit × DataW H) → Nat
  | [] => 0
  | x :: r => uptoBulkEntry x + uptoBulkEntries r
def uptoBulkEntry {H : Type} : Lit × DataW H → Nat
  | (.string bytes, d) => bytes.length + uptoBulk d + 1
  | (_, d) => uptoBulk d + 1
 end
def uptoSmall : (H : Type) → List (DataW H) → Bool := fun _ ds => decide (uptoBulkAll ds ≤ 1048576)
def OpenSpec.upto (s : _root_.Go.ChangeSpec) : _root_.Go.OpenSpec := { _root_.Go.OpenSpec.ofChange s with cond := some uptoSmall }

/-- 'laws.FnSeqDeleted', WHERE WHAT IT READS IS OF BULK AT MOST 1048576: true; the input reads as it did. -/
def fnSeqDeletedUptoRow : OpenClaim := { program := "ytpjeccnhgoegkaa", sum := "f945ff7340be26950d107128d947ca3977c320fb168c4c16e903666514a437f9", func := "loop.example/g00318/laws.FnSeqDeleted", spec := "fnSeqDeleted", inPlace := ["internal/abi.NoEscape"], unfollowed := true, recurses := true, apart := false, narrowed := true }
def FnSeqDeletedUptoSaid : Prop := fnSeqDeletedUptoRow.holds Try.pinned (OpenSpec.upto fnSeqDeletedSpec)

/-- 'laws.FnSeqInserted', WHERE WHAT IT READS IS OF BULK AT MOST 1048576: true; the input reads as it did. -/
def fnSeqInsertedUptoRow : OpenClaim := { program := "ytpjeccnhgoegkaa", sum := "f945ff7340be26950d107128d947ca3977c320fb168c4c16e903666514a437f9", func := "loop.example/g00318/laws.FnSeqInserted", spec := "fnSeqInserted", inPlace := ["internal/abi.NoEscape"], unfollowed := true, recurses := true, apart := false, narrowed := true }
def FnSeqInsertedUptoSaid : Prop := fnSeqInsertedUptoRow.holds Try.pinned (OpenSpec.upto fnSeqInsertedSpec)

/-- 'laws.FnSeqText', WHERE WHAT IT READS IS OF BULK AT MOST 1048576: true; the input reads as it did. -/
def fnSeqTextUptoRow : OpenClaim := { program := "ytpjeccnhgoegkaa", sum := "f945ff7340be26950d107128d947ca3977c320fb168c4c16e903666514a437f9", func := "loop.example/g00318/laws.FnSeqText", spec := "fnSeqText", inPlace := ["internal/abi.NoEscape"], unfollowed := true, recurses := true, apart := false, narrowed := true }
def FnSeqTextUptoSaid : Prop := fnSeqTextUptoRow.holds Try.pinned (OpenSpec.upto fnSeqTextSpec)

end Rows
end Go.Proofs.Ytpjeccnhgoegkaa
