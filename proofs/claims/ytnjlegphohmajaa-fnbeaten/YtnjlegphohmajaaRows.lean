/-
  No cell of these rows narrows 'for every input' (looked for: loops, veiled, ifaces, maps, wideKeys, modest, calm, conditions, laid).
  DERIVED. THE GIVEN ROWS OF THIS SEAT. 5 by the template 'for every input the law returns true; each argument reads behind the call as it read before'; 0 by the template 'total and deterministic' (their statements: YtnjlegphohmajaaTotals.lean).
  GIVEN WITH THE SEED: the statements are not yours to turn. If you find one false, say at which input.
  Laid BY PROGRAM, IN A SANDBOX (cutbox-rows.mjs): the forced cells as the released guide's own fill.sh prints them over the translation 8fba7dee40a2b9e7… (all of the seat's roots in one cut). By AI agents, Wed Nov 11 2026. No macro, syntax, notation, axiom, sorry.
-/
import Derived.Test.YtnjlegphohmajaaChecked
import GoSem.Claim
import GoSem.ClaimJoined
import GoSem.ClaimMapViews
import Derived.JoinedTies
import Derived.KernelRfl
namespace Go.Proofs.Ytnjlegphohmajaa
/- THE CELL 'sum', in the pinned program and in every row, IS THE sha256 OF THE DUMP (.gsa) THAT YtnjlegphohmajaaProg.lean LOADS. Nothing in Lean hashes anything: it is a label: what it is worth is what the hold of that sum in a sandbox is worth. -/
noncomputable def Try.pinned : Pinned := { name := "ytnjlegphohmajaa", sum := "8fba7dee40a2b9e7b2a6a111bb42c280d08cd617f300e233c28a008b37ee2820", checked := Try.checked }
namespace Rows
def none {H : Type} : Left H := { results := [], args := [] }

/-- 'laws.FnBeaten': WHATEVER THE INPUT: true; the input reads as it did. -/
def fnBeatenSpec : ChangeSpec := { name := "fnBeaten", fn := fun _ => fun
  | [d] => { results := [.lit (.bool true)], args := [d] }
  | _ => none }
def fnBeatenRow : OpenClaim := { program := "ytnjlegphohmajaa", sum := "8fba7dee40a2b9e7b2a6a111bb42c280d08cd617f300e233c28a008b37ee2820", func := "loop.example/g00318/laws.FnBeaten", spec := "fnBeaten", unfollowed := true, recurses := true, apart := false }
def FnBeatenSaid : Prop := fnBeatenRow.holds Try.pinned (OpenSpec.ofChange fnBeatenSpec)

/-- ITS FALSE NEIGHBOUR: 'it returns false'. Refute it at one input. -/
def fnBeatenWrong : ChangeSpec := { name := "fnBeaten", fn := fun _ => fun
  | [d] => { results := [.lit (.bool false)], args := [d] }
  | _ => none }
def FnBeatenWrongFalsely : Prop := fnBeatenRow.holds Try.pinned (OpenSpec.ofChange fnBeatenWrong)

/-- 'laws.FnBeatsMerged': WHATEVER THE INPUT: true; the input reads as it did. -/
def fnBeatsMergedSpec : ChangeSpec := { name := "fnBeatsMerged", fn := fun _ => fun
  | [d] => { results := [.lit (.bool true)], args := [d] }
  | _ => none }
def fnBeatsMergedRow : OpenClaim := { program := "ytnjlegphohmajaa", sum := "8fba7dee40a2b9e7b2a6a111bb42c280d08cd617f300e233c28a008b37ee2820", func := "loop.example/g00318/laws.FnBeatsMerged", spec := "fnBeatsMerged", unfollowed := true, recurses := true, apart := false }
def FnBeatsMergedSaid : Prop := fnBeatsMergedRow.holds Try.pinned (OpenSpec.ofChange fnBeatsMergedSpec)

/-- ITS FALSE NEIGHBOUR: 'it returns false'. Refute it at one input. -/
def fnBeatsMergedWrong : ChangeSpec := { name := "fnBeatsMerged", fn := fun _ => fun
  | [d] => { results := [.lit (.bool false)], args := [d] }
  | _ => none }
def FnBeatsMergedWrongFalsely : Prop := fnBeatsMergedRow.holds Try.pinned (OpenSpec.ofChange fnBeatsMergedWrong)

/-- 'laws.FnAlive': WHATEVER THE INPUT: true; the input reads as it did. -/
def fnAliveSpec : ChangeSpec := { name := "fnAlive", fn := fun _ => fun
  | [d] => { results := [.lit (.bool true)], args := [d] }
  | _ => none }
def fnAliveRow : OpenClaim := { program := "ytnjlegphohmajaa", sum := "8fba7dee40a2b9e7b2a6a111bb42c280d08cd617f300e233c28a008b37ee2820", func := "loop.example/g00318/laws.FnAlive", spec := "fnAlive", apart := false }
def FnAliveSaid : Prop := fnAliveRow.holds Try.pinned (OpenSpec.ofChange fnAliveSpec)

/-- ITS FALSE NEIGHBOUR: 'it returns false'. Refute it at one input. -/
def fnAliveWrong : ChangeSpec := { name := "fnAlive", fn := fun _ => fun
  | [d] => { results := [.lit (.bool false)], args := [d] }
  | _ => none }
def FnAliveWrongFalsely : Prop := fnAliveRow.holds Try.pinned (OpenSpec.ofChange fnAliveWrong)

/-- 'laws.FnRowsMerged': WHATEVER THE INPUT: true; the input reads as it did. -/
def fnRowsMergedSpec : ChangeSpec := { name := "fnRowsMerged", fn := fun _ => fun
  | [d] => { results := [.lit (.bool true)], args := [d] }
  | _ => none }
def fnRowsMergedRow : OpenClaim := { program := "ytnjlegphohmajaa", sum := "8fba7dee40a2b9e7b2a6a111bb42c280d08cd617f300e233c28a008b37ee2820", func := "loop.example/g00318/laws.FnRowsMerged", spec := "fnRowsMerged", unfollowed := true, recurses := true, apart := false }
def FnRowsMergedSaid : Prop := fnRowsMergedRow.holds Try.pinned (OpenSpec.ofChange fnRowsMergedSpec)

/-- ITS FALSE NEIGHBOUR: 'it returns false'. Refute it at one input. -/
def fnRowsMergedWrong : ChangeSpec := { name := "fnRowsMerged", fn := fun _ => fun
  | [d] => { results := [.lit (.bool false)], args := [d] }
  | _ => none }
def FnRowsMergedWrongFalsely : Prop := fnRowsMergedRow.holds Try.pinned (OpenSpec.ofChange fnRowsMergedWrong)

/-- 'laws.FnStable': WHATEVER THE INPUT: true; the input reads as it did. -/
def fnStableSpec : ChangeSpec := { name := "fnStable", fn := fun _ => fun
  | [d] => { results := [.lit (.bool true)], args := [d] }
  | _ => none }
def fnStableRow : OpenClaim := { program := "ytnjlegphohmajaa", sum := "8fba7dee40a2b9e7b2a6a111bb42c280d08cd617f300e233c28a008b37ee2820", func := "loop.example/g00318/laws.FnStable", spec := "fnStable", unfollowed := true, recurses := true, apart := false }
def FnStableSaid : Prop := fnStableRow.holds Try.pinned (OpenSpec.ofChange fnStableSpec)

/-- ITS FALSE NEIGHBOUR: 'it returns false'. Refute it at one input. -/
def fnStableWrong : ChangeSpec := { name := "fnStable", fn := fun _ => fun
  | [d] => { results := [.lit (.bool false)], args := [d] }
  | _ => none }
def FnStableWrongFalsely : Prop := fnStableRow.holds Try.pinned (OpenSpec.ofChange fnStableWrong)

/- THE SECOND FORM. 'bulk': how many values and letters a reading holds, each counted each time it is reached (what is shared counts as often as it is met; a slice's spare places count too). A statement '..UptoSaid' is the law's where the arguments, and the package variables that the reading takes, are together of bulk at most 1048576: NARROWER than '..Said'. Prove '..Said' where nothing that the law and all that it calls make is longer than what came in: it says more and counts as full. Else prove '..UptoSaid'. A law counts once. -/
mutual
def uptoBulk {H : Type} : DataW H → Nat
  | .lit (.string bytes) => bytes.length + 1
  | .lit _ => 1
  | .nil => 1
  | .ptr d => uptoBulk d + 1
  | .slice elems spare => uptoBulkAll elems + uptoBulkAll spare + 1
  | .agg parts => uptoBulkAll parts + 1
  | .iface _ d => uptoBulk d + 1
  | .map entries => uptoBulkEntries entries + 1
  | .held _ => 1
def uptoBulkAll {H : Type} : List (DataW H) → Nat
  | [] => 0
  | d :: r => uptoBulk d + uptoBulkAll r
def uptoBulkEntries {H : Type} : List (Lit × DataW H) → Nat
  | [] => 0
  | x :: r => uptoBulkEntry x + uptoBulkEntries r
def uptoBulkEntry {H : Type} : Lit × DataW H → Nat
  | (.string bytes, d) => bytes.length + uptoBulk d + 1
  | (_, d) => uptoBulk d + 1
 end
def uptoSmall : (H : Type) → List (DataW H) → Bool := fun _ ds => decide (uptoBulkAll ds ≤ 1048576)
def OpenSpec.upto (s : _root_.Go.ChangeSpec) : _root_.Go.OpenSpec := { _root_.Go.OpenSpec.ofChange s with cond := some uptoSmall }

/-- 'laws.FnBeaten', WHERE WHAT IT READS IS OF BULK AT MOST 1048576: true; the input reads as it did. -/
def fnBeatenUptoRow : OpenClaim := { program := "ytnjlegphohmajaa", sum := "8fba7dee40a2b9e7b2a6a111bb42c280d08cd617f300e233c28a008b37ee2820", func := "loop.example/g00318/laws.FnBeaten", spec := "fnBeaten", unfollowed := true, recurses := true, apart := false, narrowed := true }
def FnBeatenUptoSaid : Prop := fnBeatenUptoRow.holds Try.pinned (OpenSpec.upto fnBeatenSpec)

/-- 'laws.FnBeatsMerged', WHERE WHAT IT READS IS OF BULK AT MOST 1048576: true; the input reads as it did. -/
def fnBeatsMergedUptoRow : OpenClaim := { program := "ytnjlegphohmajaa", sum := "8fba7dee40a2b9e7b2a6a111bb42c280d08cd617f300e233c28a008b37ee2820", func := "loop.example/g00318/laws.FnBeatsMerged", spec := "fnBeatsMerged", unfollowed := true, recurses := true, apart := false, narrowed := true }
def FnBeatsMergedUptoSaid : Prop := fnBeatsMergedUptoRow.holds Try.pinned (OpenSpec.upto fnBeatsMergedSpec)

/-- 'laws.FnAlive', WHERE WHAT IT READS IS OF BULK AT MOST 1048576: true; the input reads as it did. -/
def fnAliveUptoRow : OpenClaim := { program := "ytnjlegphohmajaa", sum := "8fba7dee40a2b9e7b2a6a111bb42c280d08cd617f300e233c28a008b37ee2820", func := "loop.example/g00318/laws.FnAlive", spec := "fnAlive", apart := false, narrowed := true }
def FnAliveUptoSaid : Prop := fnAliveUptoRow.holds Try.pinned (OpenSpec.upto fnAliveSpec)

/-- 'laws.FnRowsMerged', WHERE WHAT IT READS IS OF BULK AT MOST 1048576: true; the input reads as it did. -/
def fnRowsMergedUptoRow : OpenClaim := { program := "ytnjlegphohmajaa", sum := "8fba7dee40a2b9e7b2a6a111bb42c280d08cd617f300e233c28a008b37ee2820", func := "loop.example/g00318/laws.FnRowsMerged", spec := "fnRowsMerged", unfollowed := true, recurses := true, apart := false, narrowed := true }
def FnRowsMergedUptoSaid : Prop := fnRowsMergedUptoRow.holds Try.pinned (OpenSpec.upto fnRowsMergedSpec)

/-- 'laws.FnStable', WHERE WHAT IT READS IS OF BULK AT MOST 1048576: true; the input reads as it did. -/
def fnStableUptoRow : OpenClaim := { program := "ytnjlegphohmajaa", sum := "8fba7dee40a2b9e7b2a6a111bb42c280d08cd617f300e233c28a008b37ee2820", func := "loop.example/g00318/laws.FnStable", spec := "fnStable", unfollowed := true, recurses := true, apart := false, narrowed := true }
def FnStableUptoSaid : Prop := fnStableUptoRow.holds Try.pinned (OpenSpec.upto fnStableSpec)

end Rows
end Go.Proofs.Ytnjlegphohmajaa
