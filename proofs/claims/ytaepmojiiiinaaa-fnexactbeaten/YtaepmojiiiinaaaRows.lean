/-
  No cell of these rows narrows 'for every input' (looked for: loops, veiled, ifaces, maps, wideKeys, modest, calm, conditions, laid).
  DERIVED. THE GIVEN ROWS OF THIS SEAT. 5 by the template 'for every input the law returns true; each argument reads behind the call as it read before'; 0 by the template 'total and deterministic' (their statements: YtaepmojiiiinaaaTotals.lean).
  GIVEN WITH THE SEED: the statements are not yours to turn. If you find one false, say at which input.
  Laid BY PROGRAM, IN A SANDBOX (cutbox-rows.mjs): the forced cells as the released guide's own fill.sh prints them over the translation 69c043f51c20363c… (all of the seat's roots in one cut). By AI agents, Wed Nov 11 2026. No macro, syntax, notation, axiom, sorry.
-/
import Derived.Test.YtaepmojiiiinaaaChecked
import GoSem.Claim
import GoSem.ClaimJoined
import GoSem.ClaimMapViews
import Derived.JoinedTies
import Derived.KernelRfl
namespace Go.Proofs.Ytaepmojiiiinaaa
/- THE CELL 'sum', in the pinned program and in every row, IS THE sha256 OF THE DUMP (.gsa) THAT YtaepmojiiiinaaaProg.lean LOADS. Nothing in Lean hashes anything: it is a label: what it is worth is what the hold of that sum in a sandbox is worth. -/
noncomputable def Try.pinned : Pinned := { name := "ytaepmojiiiinaaa", sum := "69c043f51c20363c1fa9c55f2b94e03c3b79909c96b779b00a3e080ee8035196", checked := Try.checked }
namespace Rows
def none {H : Type} : Left H := { results := [], args := [] }

/-- 'laws.FnExactBeatsOk': WHATEVER THE INPUT: true; the input reads as it did. -/
def fnExactBeatsOkSpec : ChangeSpec := { name := "fnExactBeatsOk", fn := fun _ => fun
  | [d] => { results := [.lit (.bool true)], args := [d] }
  | _ => none }
def fnExactBeatsOkRow : OpenClaim := { program := "ytaepmojiiiinaaa", sum := "69c043f51c20363c1fa9c55f2b94e03c3b79909c96b779b00a3e080ee8035196", func := "loop.example/g00318/laws.FnExactBeatsOk", spec := "fnExactBeatsOk", apart := false }
def FnExactBeatsOkSaid : Prop := fnExactBeatsOkRow.holds Try.pinned (OpenSpec.ofChange fnExactBeatsOkSpec)

/-- ITS FALSE NEIGHBOUR: 'it returns false'. Refute it at one input. -/
def fnExactBeatsOkWrong : ChangeSpec := { name := "fnExactBeatsOk", fn := fun _ => fun
  | [d] => { results := [.lit (.bool false)], args := [d] }
  | _ => none }
def FnExactBeatsOkWrongFalsely : Prop := fnExactBeatsOkRow.holds Try.pinned (OpenSpec.ofChange fnExactBeatsOkWrong)

/-- 'laws.FnExactBeatsPruned': WHATEVER THE INPUT: true; the input reads as it did. -/
def fnExactBeatsPrunedSpec : ChangeSpec := { name := "fnExactBeatsPruned", fn := fun _ => fun
  | [d1, d2] => { results := [.lit (.bool true)], args := [d1, d2] }
  | _ => none }
def fnExactBeatsPrunedRow : OpenClaim := { program := "ytaepmojiiiinaaa", sum := "69c043f51c20363c1fa9c55f2b94e03c3b79909c96b779b00a3e080ee8035196", func := "loop.example/g00318/laws.FnExactBeatsPruned", spec := "fnExactBeatsPruned", apart := false }
def FnExactBeatsPrunedSaid : Prop := fnExactBeatsPrunedRow.holds Try.pinned (OpenSpec.ofChange fnExactBeatsPrunedSpec)

/-- ITS FALSE NEIGHBOUR: 'it returns false'. Refute it at one input. -/
def fnExactBeatsPrunedWrong : ChangeSpec := { name := "fnExactBeatsPruned", fn := fun _ => fun
  | [d1, d2] => { results := [.lit (.bool false)], args := [d1, d2] }
  | _ => none }
def FnExactBeatsPrunedWrongFalsely : Prop := fnExactBeatsPrunedRow.holds Try.pinned (OpenSpec.ofChange fnExactBeatsPrunedWrong)

/-- 'laws.FnExactAliveAt': WHATEVER THE INPUT: true; the input reads as it did. -/
def fnExactAliveAtSpec : ChangeSpec := { name := "fnExactAliveAt", fn := fun _ => fun
  | [d1, d2] => { results := [.lit (.bool true)], args := [d1, d2] }
  | _ => none }
def fnExactAliveAtRow : OpenClaim := { program := "ytaepmojiiiinaaa", sum := "69c043f51c20363c1fa9c55f2b94e03c3b79909c96b779b00a3e080ee8035196", func := "loop.example/g00318/laws.FnExactAliveAt", spec := "fnExactAliveAt", apart := false }
def FnExactAliveAtSaid : Prop := fnExactAliveAtRow.holds Try.pinned (OpenSpec.ofChange fnExactAliveAtSpec)

/-- ITS FALSE NEIGHBOUR: 'it returns false'. Refute it at one input. -/
def fnExactAliveAtWrong : ChangeSpec := { name := "fnExactAliveAt", fn := fun _ => fun
  | [d1, d2] => { results := [.lit (.bool false)], args := [d1, d2] }
  | _ => none }
def FnExactAliveAtWrongFalsely : Prop := fnExactAliveAtRow.holds Try.pinned (OpenSpec.ofChange fnExactAliveAtWrong)

/-- 'laws.FnExactBeaten': WHATEVER THE INPUT: true; the input reads as it did. -/
def fnExactBeatenSpec : ChangeSpec := { name := "fnExactBeaten", fn := fun _ => fun
  | [d1, d2, d3, d4] => { results := [.lit (.bool true)], args := [d1, d2, d3, d4] }
  | _ => none }
def fnExactBeatenRow : OpenClaim := { program := "ytaepmojiiiinaaa", sum := "69c043f51c20363c1fa9c55f2b94e03c3b79909c96b779b00a3e080ee8035196", func := "loop.example/g00318/laws.FnExactBeaten", spec := "fnExactBeaten", unfollowed := true, recurses := true, apart := false }
def FnExactBeatenSaid : Prop := fnExactBeatenRow.holds Try.pinned (OpenSpec.ofChange fnExactBeatenSpec)

/-- ITS FALSE NEIGHBOUR: 'it returns false'. Refute it at one input. -/
def fnExactBeatenWrong : ChangeSpec := { name := "fnExactBeaten", fn := fun _ => fun
  | [d1, d2, d3, d4] => { results := [.lit (.bool false)], args := [d1, d2, d3, d4] }
  | _ => none }
def FnExactBeatenWrongFalsely : Prop := fnExactBeatenRow.holds Try.pinned (OpenSpec.ofChange fnExactBeatenWrong)

/-- 'laws.FnExactBeatsMerged': WHATEVER THE INPUT: true; the input reads as it did. -/
def fnExactBeatsMergedSpec : ChangeSpec := { name := "fnExactBeatsMerged", fn := fun _ => fun
  | [d1, d2] => { results := [.lit (.bool true)], args := [d1, d2] }
  | _ => none }
def fnExactBeatsMergedRow : OpenClaim := { program := "ytaepmojiiiinaaa", sum := "69c043f51c20363c1fa9c55f2b94e03c3b79909c96b779b00a3e080ee8035196", func := "loop.example/g00318/laws.FnExactBeatsMerged", spec := "fnExactBeatsMerged", unfollowed := true, recurses := true, apart := false }
def FnExactBeatsMergedSaid : Prop := fnExactBeatsMergedRow.holds Try.pinned (OpenSpec.ofChange fnExactBeatsMergedSpec)

/-- ITS FALSE NEIGHBOUR: 'it returns false'. Refute it at one input. -/
def fnExactBeatsMergedWrong : ChangeSpec := { name := "fnExactBeatsMerged", fn := fun _ => fun
  | [d1, d2] => { results := [.lit (.bool false)], args := [d1, d2] }
  | _ => none }
def FnExactBeatsMergedWrongFalsely : Prop := fnExactBeatsMergedRow.holds Try.pinned (OpenSpec.ofChange fnExactBeatsMergedWrong)

/- THE SECOND FORM. 'bulk': how many values and letters a reading holds, each counted each time it is reached (what is shared counts as often as it is met; a slice's spare places count too). A statement '..UptoSaid' is the law's where the arguments, and the package variables that the reading takes, are together of bulk at most 1048576: NARROWER than '..Said'. Prove '..Said' where nothing that the law and all that it calls make is longer than what came in: it says more and counts as full. Else prove '..UptoSaid'. A law counts once. -/
mutual
def uptoBulk {H : Type} : DataW H → Nat
  | .lit (.string bytes) => bytes.length + 1
  | .lit _ => 1
  | .nil => 1
  | .ptr d => uptoBulk d + 1
  | .slice elems spare => uptoBulkAll elems + uptoBulkAll spare + 1
  | .agg parts => uptoBulkAll parts + 1
  | .iface _ d => uptoBulk d + 1
  | .map entries => uptoBulkEntries entries + 1
  | .held _ => 1
def uptoBulkAll {H : Type} : List (DataW H) → Nat
  | [] => 0
  | d :: r => uptoBulk d + uptoBulkAll r
def uptoBulkEntries {H : Type} : List (Lit × DataW H) → Nat
  | [] => 0
  | x :: r => uptoBulkEntry x + uptoBulkEntries r
def uptoBulkEntry {H : Type} : Lit × DataW H → Nat
  | (.string bytes, d) => bytes.length + uptoBulk d + 1
  | (_, d) => uptoBulk d + 1
 end
def uptoSmall : (H : Type) → List (DataW H) → Bool := fun _ ds => decide (uptoBulkAll ds ≤ 1048576)
def OpenSpec.upto (s : _root_.Go.ChangeSpec) : _root_.Go.OpenSpec := { _root_.Go.OpenSpec.ofChange s with cond := some uptoSmall }

/-- 'laws.FnExactBeatsOk', WHERE WHAT IT READS IS OF BULK AT MOST 1048576: true; the input reads as it did. -/
def fnExactBeatsOkUptoRow : OpenClaim := { program := "ytaepmojiiiinaaa", sum := "69c043f51c20363c1fa9c55f2b94e03c3b79909c96b779b00a3e080ee8035196", func := "loop.example/g00318/laws.FnExactBeatsOk", spec := "fnExactBeatsOk", apart := false, narrowed := true }
def FnExactBeatsOkUptoSaid : Prop := fnExactBeatsOkUptoRow.holds Try.pinned (OpenSpec.upto fnExactBeatsOkSpec)

/-- 'laws.FnExactBeatsPruned', WHERE WHAT IT READS IS OF BULK AT MOST 1048576: true; the input reads as it did. -/
def fnExactBeatsPrunedUptoRow : OpenClaim := { program := "ytaepmojiiiinaaa", sum := "69c043f51c20363c1fa9c55f2b94e03c3b79909c96b779b00a3e080ee8035196", func := "loop.example/g00318/laws.FnExactBeatsPruned", spec := "fnExactBeatsPruned", apart := false, narrowed := true }
def FnExactBeatsPrunedUptoSaid : Prop := fnExactBeatsPrunedUptoRow.holds Try.pinned (OpenSpec.upto fnExactBeatsPrunedSpec)

/-- 'laws.FnExactAliveAt', WHERE WHAT IT READS IS OF BULK AT MOST 1048576: true; the input reads as it did. -/
def fnExactAliveAtUptoRow : OpenClaim := { program := "ytaepmojiiiinaaa", sum := "69c043f51c20363c1fa9c55f2b94e03c3b79909c96b779b00a3e080ee8035196", func := "loop.example/g00318/laws.FnExactAliveAt", spec := "fnExactAliveAt", apart := false, narrowed := true }
def FnExactAliveAtUptoSaid : Prop := fnExactAliveAtUptoRow.holds Try.pinned (OpenSpec.upto fnExactAliveAtSpec)

/-- 'laws.FnExactBeaten', WHERE WHAT IT READS IS OF BULK AT MOST 1048576: true; the input reads as it did. -/
def fnExactBeatenUptoRow : OpenClaim := { program := "ytaepmojiiiinaaa", sum := "69c043f51c20363c1fa9c55f2b94e03c3b79909c96b779b00a3e080ee8035196", func := "loop.example/g00318/laws.FnExactBeaten", spec := "fnExactBeaten", unfollowed := true, recurses := true, apart := false, narrowed := true }
def FnExactBeatenUptoSaid : Prop := fnExactBeatenUptoRow.holds Try.pinned (OpenSpec.upto fnExactBeatenSpec)

/-- 'laws.FnExactBeatsMerged', WHERE WHAT IT READS IS OF BULK AT MOST 1048576: true; the input reads as it did. -/
def fnExactBeatsMergedUptoRow : OpenClaim := { program := "ytaepmojiiiinaaa", sum := "69c043f51c20363c1fa9c55f2b94e03c3b79909c96b779b00a3e080ee8035196", func := "loop.example/g00318/laws.FnExactBeatsMerged", spec := "fnExactBeatsMerged", unfollowed := true, recurses := true, apart := false, narrowed := true }
def FnExactBeatsMergedUptoSaid : Prop := fnExactBeatsMergedUptoRow.holds Try.pinned (OpenSpec.upto fnExactBeatsMergedSpec)

end Rows
end Go.Proofs.Ytaepmojiiiinaaa
