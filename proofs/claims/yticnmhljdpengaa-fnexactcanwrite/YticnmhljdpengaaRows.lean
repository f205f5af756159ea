/-
  No cell of these rows narrows 'for every input' (looked for: loops, veiled, ifaces, maps, wideKeys, modest, calm, conditions, laid).
  DERIVED. THE GIVEN ROWS OF THIS SEAT. 5 by the template 'for every input the law returns true; each argument reads behind the call as it read before'; 0 by the template 'total and deterministic' (their statements: YticnmhljdpengaaTotals.lean).
  GIVEN WITH THE SEED: the statements are not yours to turn. If you find one false, say at which input.
  Laid BY PROGRAM, IN A SANDBOX (cutbox-rows.mjs): the forced cells as the released guide's own fill.sh prints them over the translation 6b38bd73f786ba72… (all of the seat's roots in one cut). By AI agents, Wed Nov 11 2026. No macro, syntax, notation, axiom, sorry.
-/
import Derived.Test.YticnmhljdpengaaChecked
import GoSem.Claim
import GoSem.ClaimJoined
import GoSem.ClaimMapViews
import Derived.JoinedTies
import Derived.KernelRfl
namespace Go.Proofs.Yticnmhljdpengaa
/- THE CELL 'sum', in the pinned program and in every row, IS THE sha256 OF THE DUMP (.gsa) THAT YticnmhljdpengaaProg.lean LOADS. Nothing in Lean hashes anything: it is a label: what it is worth is what the hold of that sum in a sandbox is worth. -/
noncomputable def Try.pinned : Pinned := { name := "yticnmhljdpengaa", sum := "6b38bd73f786ba7261e24943c0cc78625d92166262a07a8fadebc0feabffb542", checked := Try.checked }
namespace Rows
def none {H : Type} : Left H := { results := [], args := [] }

/-- 'laws.FnExactChainOk': WHATEVER THE INPUT: true; the input reads as it did. -/
def fnExactChainOkSpec : ChangeSpec := { name := "fnExactChainOk", fn := fun _ => fun
  | [d] => { results := [.lit (.bool true)], args := [d] }
  | _ => none }
def fnExactChainOkRow : OpenClaim := { program := "yticnmhljdpengaa", sum := "6b38bd73f786ba7261e24943c0cc78625d92166262a07a8fadebc0feabffb542", func := "loop.example/g00318/laws.FnExactChainOk", spec := "fnExactChainOk", apart := false }
def FnExactChainOkSaid : Prop := fnExactChainOkRow.holds Try.pinned (OpenSpec.ofChange fnExactChainOkSpec)

/-- ITS FALSE NEIGHBOUR: 'it returns false'. Refute it at one input. -/
def fnExactChainOkWrong : ChangeSpec := { name := "fnExactChainOk", fn := fun _ => fun
  | [d] => { results := [.lit (.bool false)], args := [d] }
  | _ => none }
def FnExactChainOkWrongFalsely : Prop := fnExactChainOkRow.holds Try.pinned (OpenSpec.ofChange fnExactChainOkWrong)

/-- 'laws.FnExactRosterAt': WHATEVER THE INPUT: true; the input reads as it did. -/
def fnExactRosterAtSpec : ChangeSpec := { name := "fnExactRosterAt", fn := fun _ => fun
  | [d1, d2] => { results := [.lit (.bool true)], args := [d1, d2] }
  | _ => none }
def fnExactRosterAtRow : OpenClaim := { program := "yticnmhljdpengaa", sum := "6b38bd73f786ba7261e24943c0cc78625d92166262a07a8fadebc0feabffb542", func := "loop.example/g00318/laws.FnExactRosterAt", spec := "fnExactRosterAt", unfollowed := true, recurses := true, apart := false }
def FnExactRosterAtSaid : Prop := fnExactRosterAtRow.holds Try.pinned (OpenSpec.ofChange fnExactRosterAtSpec)

/-- ITS FALSE NEIGHBOUR: 'it returns false'. Refute it at one input. -/
def fnExactRosterAtWrong : ChangeSpec := { name := "fnExactRosterAt", fn := fun _ => fun
  | [d1, d2] => { results := [.lit (.bool false)], args := [d1, d2] }
  | _ => none }
def FnExactRosterAtWrongFalsely : Prop := fnExactRosterAtRow.holds Try.pinned (OpenSpec.ofChange fnExactRosterAtWrong)

/-- 'laws.FnExactCanWrite': WHATEVER THE INPUT: true; the input reads as it did. -/
def fnExactCanWriteSpec : ChangeSpec := { name := "fnExactCanWrite", fn := fun _ => fun
  | [d1, d2, d3] => { results := [.lit (.bool true)], args := [d1, d2, d3] }
  | _ => none }
def fnExactCanWriteRow : OpenClaim := { program := "yticnmhljdpengaa", sum := "6b38bd73f786ba7261e24943c0cc78625d92166262a07a8fadebc0feabffb542", func := "loop.example/g00318/laws.FnExactCanWrite", spec := "fnExactCanWrite", unfollowed := true, recurses := true, apart := false }
def FnExactCanWriteSaid : Prop := fnExactCanWriteRow.holds Try.pinned (OpenSpec.ofChange fnExactCanWriteSpec)

/-- ITS FALSE NEIGHBOUR: 'it returns false'. Refute it at one input. -/
def fnExactCanWriteWrong : ChangeSpec := { name := "fnExactCanWrite", fn := fun _ => fun
  | [d1, d2, d3] => { results := [.lit (.bool false)], args := [d1, d2, d3] }
  | _ => none }
def FnExactCanWriteWrongFalsely : Prop := fnExactCanWriteRow.holds Try.pinned (OpenSpec.ofChange fnExactCanWriteWrong)

/-- 'laws.FnExactChainMerged': WHATEVER THE INPUT: true; the input reads as it did. -/
def fnExactChainMergedSpec : ChangeSpec := { name := "fnExactChainMerged", fn := fun _ => fun
  | [d1, d2] => { results := [.lit (.bool true)], args := [d1, d2] }
  | _ => none }
def fnExactChainMergedRow : OpenClaim := { program := "yticnmhljdpengaa", sum := "6b38bd73f786ba7261e24943c0cc78625d92166262a07a8fadebc0feabffb542", func := "loop.example/g00318/laws.FnExactChainMerged", spec := "fnExactChainMerged", unfollowed := true, recurses := true, apart := false }
def FnExactChainMergedSaid : Prop := fnExactChainMergedRow.holds Try.pinned (OpenSpec.ofChange fnExactChainMergedSpec)

/-- ITS FALSE NEIGHBOUR: 'it returns false'. Refute it at one input. -/
def fnExactChainMergedWrong : ChangeSpec := { name := "fnExactChainMerged", fn := fun _ => fun
  | [d1, d2] => { results := [.lit (.bool false)], args := [d1, d2] }
  | _ => none }
def FnExactChainMergedWrongFalsely : Prop := fnExactChainMergedRow.holds Try.pinned (OpenSpec.ofChange fnExactChainMergedWrong)

/-- 'laws.FnExactChainWith': WHATEVER THE INPUT: true; the input reads as it did. -/
def fnExactChainWithSpec : ChangeSpec := { name := "fnExactChainWith", fn := fun _ => fun
  | [d1, d2] => { results := [.lit (.bool true)], args := [d1, d2] }
  | _ => none }
def fnExactChainWithRow : OpenClaim := { program := "yticnmhljdpengaa", sum := "6b38bd73f786ba7261e24943c0cc78625d92166262a07a8fadebc0feabffb542", func := "loop.example/g00318/laws.FnExactChainWith", spec := "fnExactChainWith", unfollowed := true, recurses := true, apart := false }
def FnExactChainWithSaid : Prop := fnExactChainWithRow.holds Try.pinned (OpenSpec.ofChange fnExactChainWithSpec)

/-- ITS FALSE NEIGHBOUR: 'it returns false'. Refute it at one input. -/
def fnExactChainWithWrong : ChangeSpec := { name := "fnExactChainWith", fn := fun _ => fun
  | [d1, d2] => { results := [.lit (.bool false)], args := [d1, d2] }
  | _ => none }
def FnExactChainWithWrongFalsely : Prop := fnExactChainWithRow.holds Try.pinned (OpenSpec.ofChange fnExactChainWithWrong)

/- THE SECOND FORM. 'bulk': how many values and letters a reading holds, each counted each time it is reached (what is shared counts as often as it is met; a slice's spare places count too). A statement '..UptoSaid' is the law's where the arguments, and the package variables that the reading takes, are together of bulk at most 1048576: NARROWER than '..Said'. Prove '..Said' where nothing that the law and all that it calls make is longer than what came in: it says more and counts as full. Else prove '..UptoSaid'. A law counts once. -/
mutual
def uptoBulk {H : Type} : DataW H → Nat
  | .lit (.string bytes) => bytes.length + 1
  | .lit _ => 1
  | .nil => 1
  | .ptr d => uptoBulk d + 1
  | .slice elems spare => uptoBulkAll elems + uptoBulkAll spare + 1
  | .agg parts => uptoBulkAll parts + 1
  | .iface _ d => uptoBulk d + 1
  | .map entries => uptoBulkEntries entries + 1
  | .held _ => 1
def uptoBulkAll {H : Type} : List (DataW H) → Nat
  | [] => 0
  | d :: r => uptoBulk d + uptoBulkAll r
def uptoBulkEntries {H : Type} : List (Lit × DataW H) → Nat
  | [] => 0
  | x :: r => uptoBulkEntry x + uptoBulkEntries r
def uptoBulkEntry {H : Type} : Lit × DataW H → Nat
  | (.string bytes, d) => bytes.length + uptoBulk d + 1
  | (_, d) => uptoBulk d + 1
 end
def uptoSmall : (H : Type) → List (DataW H) → Bool := fun _ ds => decide (uptoBulkAll ds ≤ 1048576)
def OpenSpec.upto (s : _root_.Go.ChangeSpec) : _root_.Go.OpenSpec := { _root_.Go.OpenSpec.ofChange s with cond := some uptoSmall }

/-- 'laws.FnExactChainOk', WHERE WHAT IT READS IS OF BULK AT MOST 1048576: true; the input reads as it did. -/
def fnExactChainOkUptoRow : OpenClaim := { program := "yticnmhljdpengaa", sum := "6b38bd73f786ba7261e24943c0cc78625d92166262a07a8fadebc0feabffb542", func := "loop.example/g00318/laws.FnExactChainOk", spec := "fnExactChainOk", apart := false, narrowed := true }
def FnExactChainOkUptoSaid : Prop := fnExactChainOkUptoRow.holds Try.pinned (OpenSpec.upto fnExactChainOkSpec)

/-- 'laws.FnExactRosterAt', WHERE WHAT IT READS IS OF BULK AT MOST 1048576: true; the input reads as it did. -/
def fnExactRosterAtUptoRow : OpenClaim := { program := "yticnmhljdpengaa", sum := "6b38bd73f786ba7261e24943c0cc78625d92166262a07a8fadebc0feabffb542", func := "loop.example/g00318/laws.FnExactRosterAt", spec := "fnExactRosterAt", unfollowed := true, recurses := true, apart := false, narrowed := true }
def FnExactRosterAtUptoSaid : Prop := fnExactRosterAtUptoRow.holds Try.pinned (OpenSpec.upto fnExactRosterAtSpec)

/-- 'laws.FnExactCanWrite', WHERE WHAT IT READS IS OF BULK AT MOST 1048576: true; the input reads as it did. -/
def fnExactCanWriteUptoRow : OpenClaim := { program := "yticnmhljdpengaa", sum := "6b38bd73f786ba7261e24943c0cc78625d92166262a07a8fadebc0feabffb542", func := "loop.example/g00318/laws.FnExactCanWrite", spec := "fnExactCanWrite", unfollowed := true, recurses := true, apart := false, narrowed := true }
def FnExactCanWriteUptoSaid : Prop := fnExactCanWriteUptoRow.holds Try.pinned (OpenSpec.upto fnExactCanWriteSpec)

/-- 'laws.FnExactChainMerged', WHERE WHAT IT READS IS OF BULK AT MOST 1048576: true; the input reads as it did. -/
def fnExactChainMergedUptoRow : OpenClaim := { program := "yticnmhljdpengaa", sum := "6b38bd73f786ba7261e24943c0cc78625d92166262a07a8fadebc0feabffb542", func := "loop.example/g00318/laws.FnExactChainMerged", spec := "fnExactChainMerged", unfollowed := true, recurses := true, apart := false, narrowed := true }
def FnExactChainMergedUptoSaid : Prop := fnExactChainMergedUptoRow.holds Try.pinned (OpenSpec.upto fnExactChainMergedSpec)

/-- 'laws.FnExactChainWith', WHERE WHAT IT READS IS OF BULK AT MOST 1048576: true; the input reads as it did. -/
def fnExactChainWithUptoRow : OpenClaim := { program := "yticnmhljdpengaa", sum := "6b38bd73f786ba7261e24943c0cc78625d92166262a07a8fadebc0feabffb542", func := "loop.example/g00318/laws.FnExactChainWith", spec := "fnExactChainWith", unfollowed := true, recurses := true, apart := false, narrowed := true }
def FnExactChainWithUptoSaid : Prop := fnExactChainWithUptoRow.holds Try.pinned (OpenSpec.upto fnExactChainWithSpec)

end Rows
end Go.Proofs.Yticnmhljdpengaa
