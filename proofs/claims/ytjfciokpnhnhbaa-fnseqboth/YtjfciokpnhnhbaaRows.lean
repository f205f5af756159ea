/-
  No cell of these rows narrows 'for every input' (looked for: loops, veiled, ifaces, maps, wideKeys, modest, calm, conditions, laid).
  DERIVED. THE GIVEN ROWS OF THIS SEAT. 4 by the template 'for every input the law returns true; each argument reads behind the call as it read before'; 0 by the template 'total and deterministic' (their statements: YtjfciokpnhnhbaaTotals.lean).
  GIVEN WITH THE SEED: the statements are not yours to turn. If you find one false, say at which input.
  Laid BY PROGRAM, IN A SANDBOX (cutbox-rows.mjs): the forced cells as the released guide's own fill.sh prints them over the translation febcfaf1bdfb1f24… (all of the seat's roots in one cut). By AI agents, Wed Nov 11 2026. No macro, syntax, notation, axiom, sorry.
-/
import Derived.Test.YtjfciokpnhnhbaaChecked
import GoSem.Claim
import GoSem.ClaimJoined
import GoSem.ClaimMapViews
import Derived.JoinedTies
import Derived.KernelRfl
namespace Go.Proofs.Ytjfciokpnhnhbaa
/- THE CELL 'sum', in the pinned program and in every row, IS THE sha256 OF THE DUMP (.gsa) THAT YtjfciokpnhnhbaaProg.lean LOADS. Nothing in Lean hashes anything: it is a label: what it is worth is what the hold of that sum in a sandbox is worth. -/
noncomputable def Try.pinned : Pinned := { name := "ytjfciokpnhnhbaa", sum := "febcfaf1bdfb1f241921581c0cd9e89ef19ef57e6795e1fecd16ac6ed626f28c", checked := Try.checked }
namespace Rows
def none {H : Type} : Left H := { results := [], args := [] }

/-- 'laws.FnSeqTurned': WHATEVER THE INPUT: true; the input reads as it did. -/
def fnSeqTurnedSpec : ChangeSpec := { name := "fnSeqTurned", fn := fun _ => fun
  | [d] => { results := [.lit (.bool true)], args := [d] }
  | _ => none }
def fnSeqTurnedRow : OpenClaim := { program := "ytjfciokpnhnhbaa", sum := "febcfaf1bdfb1f241921581c0cd9e89ef19ef57e6795e1fecd16ac6ed626f28c", func := "loop.example/g00318/laws.FnSeqTurned", spec := "fnSeqTurned", inPlace := ["internal/abi.NoEscape"], unfollowed := true, recurses := true, apart := false }
def FnSeqTurnedSaid : Prop := fnSeqTurnedRow.holds Try.pinned (OpenSpec.ofChange fnSeqTurnedSpec)

/-- ITS FALSE NEIGHBOUR: 'it returns false'. Refute it at one input. -/
def fnSeqTurnedWrong : ChangeSpec := { name := "fnSeqTurned", fn := fun _ => fun
  | [d] => { results := [.lit (.bool false)], args := [d] }
  | _ => none }
def FnSeqTurnedWrongFalsely : Prop := fnSeqTurnedRow.holds Try.pinned (OpenSpec.ofChange fnSeqTurnedWrong)

/-- 'laws.FnSeqMerged': WHATEVER THE INPUT: true; the input reads as it did. -/
def fnSeqMergedSpec : ChangeSpec := { name := "fnSeqMerged", fn := fun _ => fun
  | [d] => { results := [.lit (.bool true)], args := [d] }
  | _ => none }
def fnSeqMergedRow : OpenClaim := { program := "ytjfciokpnhnhbaa", sum := "febcfaf1bdfb1f241921581c0cd9e89ef19ef57e6795e1fecd16ac6ed626f28c", func := "loop.example/g00318/laws.FnSeqMerged", spec := "fnSeqMerged", unfollowed := true, recurses := true, apart := false }
def FnSeqMergedSaid : Prop := fnSeqMergedRow.holds Try.pinned (OpenSpec.ofChange fnSeqMergedSpec)

/-- ITS FALSE NEIGHBOUR: 'it returns false'. Refute it at one input. -/
def fnSeqMergedWrong : ChangeSpec := { name := "fnSeqMerged", fn := fun _ => fun
  | [d] => { results := [.lit (.bool false)], args := [d] }
  | _ => none }
def FnSeqMergedWrongFalsely : Prop := fnSeqMergedRow.holds Try.pinned (OpenSpec.ofChange fnSeqMergedWrong)

/-- 'laws.FnSeqOrder': WHATEVER THE INPUT: true; the input reads as it did. -/
def fnSeqOrderSpec : ChangeSpec := { name := "fnSeqOrder", fn := fun _ => fun
  | [d] => { results := [.lit (.bool true)], args := [d] }
  | _ => none }
def fnSeqOrderRow : OpenClaim := { program := "ytjfciokpnhnhbaa", sum := "febcfaf1bdfb1f241921581c0cd9e89ef19ef57e6795e1fecd16ac6ed626f28c", func := "loop.example/g00318/laws.FnSeqOrder", spec := "fnSeqOrder", unfollowed := true, recurses := true, apart := false }
def FnSeqOrderSaid : Prop := fnSeqOrderRow.holds Try.pinned (OpenSpec.ofChange fnSeqOrderSpec)

/-- ITS FALSE NEIGHBOUR: 'it returns false'. Refute it at one input. -/
def fnSeqOrderWrong : ChangeSpec := { name := "fnSeqOrder", fn := fun _ => fun
  | [d] => { results := [.lit (.bool false)], args := [d] }
  | _ => none }
def FnSeqOrderWrongFalsely : Prop := fnSeqOrderRow.holds Try.pinned (OpenSpec.ofChange fnSeqOrderWrong)

/-- 'laws.FnSeqBoth': WHATEVER THE INPUT: true; the input reads as it did. -/
def fnSeqBothSpec : ChangeSpec := { name := "fnSeqBoth", fn := fun _ => fun
  | [d] => { results := [.lit (.bool true)], args := [d] }
  | _ => none }
def fnSeqBothRow : OpenClaim := { program := "ytjfciokpnhnhbaa", sum := "febcfaf1bdfb1f241921581c0cd9e89ef19ef57e6795e1fecd16ac6ed626f28c", func := "loop.example/g00318/laws.FnSeqBoth", spec := "fnSeqBoth", unfollowed := true, recurses := true, apart := false }
def FnSeqBothSaid : Prop := fnSeqBothRow.holds Try.pinned (OpenSpec.ofChange fnSeqBothSpec)

/-- ITS FALSE NEIGHBOUR: 'it returns false'. Refute it at one input. -/
def fnSeqBothWrong : ChangeSpec := { name := "fnSeqBoth", fn := fun _ => fun
  | [d] => { results := [.lit (.bool false)], args := [d] }
  | _ => none }
def FnSeqBothWrongFalsely : Prop := fnSeqBothRow.holds Try.pinned (OpenSpec.ofChange fnSeqBothWrong)

/- THE SECOND FORM. 'bulk': how many values and letters a reading holds, each counted each time it is reached (what is shared counts as often as it is met; a slice's spare places count too). A statement '..UptoSaid' is the law's where the arguments, and the package variables that the reading takes, are together of bulk at most 1048576: NARROWER than '..Said'. Prove '..Said' where nothing that the law and all that it calls make is longer than what came in: it says more and counts as full. Else prove '..UptoSaid'. A law counts once. -/
mutual
def uptoBulk {H : Type} : DataW H → Nat
  | .lit (.string bytes) => bytes.length + 1
  | .lit _ => 1
  | .nil => 1
  | .ptr d => uptoBulk d + 1
  | .slice elems spare => uptoBulkAll elems + uptoBulkAll spare + 1
  | .agg parts => uptoBulkAll parts + 1
  | .iface _ d => uptoBulk d + 1
  | .map entries => uptoBulkEntries entries + 1
  | .held _ => 1
def uptoBulkAll {H : Type} : List (DataW H) → Nat
  | [] => 0
  | d :: r => uptoBulk d + uptoBulkAll r
def uptoBulkEntries {H : Type} : List (Lit × DataW H) → Nat
  | [] => 0
  | x :: r => uptoBulkEntry x + uptoBulkEntries r
def uptoBulkEntry {H : Type} : Lit × DataW H → Nat
  | (.string bytes, d) => bytes.length + uptoBulk d + 1
  | (_, d) => uptoBulk d + 1
 end
def uptoSmall : (H : Type) → List (DataW H) → Bool := fun _ ds => decide (uptoBulkAll ds ≤ 1048576)
def OpenSpec.upto (s : _root_.Go.ChangeSpec) : _root_.Go.OpenSpec := { _root_.Go.OpenSpec.ofChange s with cond := some uptoSmall }

/-- 'laws.FnSeqTurned', WHERE WHAT IT READS IS OF BULK AT MOST 1048576: true; the input reads as it did. -/
def fnSeqTurnedUptoRow : OpenClaim := { program := "ytjfciokpnhnhbaa", sum := "febcfaf1bdfb1f241921581c0cd9e89ef19ef57e6795e1fecd16ac6ed626f28c", func := "loop.example/g00318/laws.FnSeqTurned", spec := "fnSeqTurned", inPlace := ["internal/abi.NoEscape"], unfollowed := true, recurses := true, apart := false, narrowed := true }
def FnSeqTurnedUptoSaid : Prop := fnSeqTurnedUptoRow.holds Try.pinned (OpenSpec.upto fnSeqTurnedSpec)

/-- 'laws.FnSeqMerged', WHERE WHAT IT READS IS OF BULK AT MOST 1048576: true; the input reads as it did. -/
def fnSeqMergedUptoRow : OpenClaim := { program := "ytjfciokpnhnhbaa", sum := "febcfaf1bdfb1f241921581c0cd9e89ef19ef57e6795e1fecd16ac6ed626f28c", func := "loop.example/g00318/laws.FnSeqMerged", spec := "fnSeqMerged", unfollowed := true, recurses := true, apart := false, narrowed := true }
def FnSeqMergedUptoSaid : Prop := fnSeqMergedUptoRow.holds Try.pinned (OpenSpec.upto fnSeqMergedSpec)

/-- 'laws.FnSeqOrder', WHERE WHAT IT READS IS OF BULK AT MOST 1048576: true; the input reads as it did. -/
def fnSeqOrderUptoRow : OpenClaim := { program := "ytjfciokpnhnhbaa", sum := "febcfaf1bdfb1f241921581c0cd9e89ef19ef57e6795e1fecd16ac6ed626f28c", func := "loop.example/g00318/laws.FnSeqOrder", spec := "fnSeqOrder", unfollowed := true, recurses := true, apart := false, narrowed := true }
def FnSeqOrderUptoSaid : Prop := fnSeqOrderUptoRow.holds Try.pinned (OpenSpec.upto fnSeqOrderSpec)

/-- 'laws.FnSeqBoth', WHERE WHAT IT READS IS OF BULK AT MOST 1048576: true; the input reads as it did. -/
def fnSeqBothUptoRow : OpenClaim := { program := "ytjfciokpnhnhbaa", sum := "febcfaf1bdfb1f241921581c0cd9e89ef19ef57e6795e1fecd16ac6ed626f28c", func := "loop.example/g00318/laws.FnSeqBoth", spec := "fnSeqBoth", unfollowed := true, recurses := true, apart := false, narrowed := true }
def FnSeqBothUptoSaid : Prop := fnSeqBothUptoRow.holds Try.pinned (OpenSpec.upto fnSeqBothSpec)

end Rows
end Go.Proofs.Ytjfciokpnhnhbaa
