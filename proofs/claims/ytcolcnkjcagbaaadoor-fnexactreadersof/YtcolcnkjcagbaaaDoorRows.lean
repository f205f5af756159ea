/-
  NARROWER THAN 'FOR EVERY INPUT', by the rows' own cells (each row's printed sentence says how): FnExactBoxOk: ifaces, laid · FnExactBoxOf: ifaces, laid · FnExactReadersOf: ifaces, laid.
  DERIVED. THE GIVEN ROWS OF THIS SEAT. 3 by the template 'for every input the law returns true; each argument reads behind the call as it read before'; 0 by the template 'total and deterministic' (their statements: YtcolcnkjcagbaaaDoorTotals.lean).
  GIVEN WITH THE SEED: the statements are not yours to turn. If you find one false, say at which input.
  Laid BY PROGRAM, IN A SANDBOX (cutbox-rows.mjs): the forced cells as the released guide's own fill.sh prints them over the translation 4df97879b6c8d4fb… (all of the seat's roots in one cut). By AI agents, Wed Nov 11 2026. No macro, syntax, notation, axiom, sorry.
-/
import Derived.Test.YtcolcnkjcagbaaaDoorChecked
import GoSem.Claim
import GoSem.ClaimJoined
import GoSem.ClaimMapViews
import Derived.JoinedTies
import Derived.KernelRfl
namespace Go.Proofs.YtcolcnkjcagbaaaDoor
/- THE CELL 'sum', in the pinned program and in every row, IS THE sha256 OF THE DUMP (.gsa) THAT YtcolcnkjcagbaaaDoorProg.lean LOADS. Nothing in Lean hashes anything: it is a label: what it is worth is what the hold of that sum in a sandbox is worth. -/
noncomputable def Tryd.pinned : Pinned := { name := "ytcolcnkjcagbaaadoor", sum := "4df97879b6c8d4fb4691412383b3c074915d70334acfb80737a6e037f7772781", checked := Tryd.checked }
namespace Rows
def none {H : Type} : Left H := { results := [], args := [] }

/- WHAT THE LISTED PACKAGE-LEVEL VARIABLES READ AS WHEN THE CALL BEGINS. Each datum BY PROGRAM (the guide's laid-datum.mjs) off the statement by which the dump's own 'gosem.cut.vars' lays the variable. In a bare row this is a premise. The card (YtcolcnkjcagbaaaDoorCards.lean) ties it to the program's text. -/
def laid_errors_errorType {H : Type} : DataW H := .iface "internal/reflectlite.rtype" (.agg [.ptr (.lit (.string [101, 114, 114, 111, 114]))])
def laid_loop_example_g00318_impl_errNoBox {H : Type} : DataW H := .iface "*errors.errorString" (.ptr (.agg [.lit (.string [105, 116, 115, 32, 116, 101, 114, 109, 32, 105, 115, 32, 110, 111, 116, 32, 97, 32, 98, 111, 100, 121, 32, 116, 104, 97, 116, 32, 105, 115, 32, 115, 101, 97, 108, 101, 100, 32, 98, 121, 32, 105, 116, 115, 32, 107, 101, 121])]))

/-- 'laws.FnExactBoxOk': WHATEVER THE INPUT: true; the input reads as it did. -/
def fnExactBoxOkSpec : ChangeSpec := { name := "fnExactBoxOk", vars := ["loop.example/g00318/impl.errNoBox"], fn := fun _ => fun
  | [d, g1] => { results := [.lit (.bool true)], args := [d], vars := [g1] }
  | _ => none }
def fnExactBoxOkRow : OpenClaim := { program := "ytcolcnkjcagbaaadoor", sum := "4df97879b6c8d4fb4691412383b3c074915d70334acfb80737a6e037f7772781", func := "loop.example/g00318/laws.FnExactBoxOk", spec := "fnExactBoxOk", inPlace := ["internal/bytealg.IndexByteString", "internal/reflectlite.TypeOf", "internal/reflectlite.ValueOf", "(internal/reflectlite.Value).Type", "(internal/reflectlite.Value).IsNil", "(internal/reflectlite.Value).Elem", "(internal/reflectlite.Value).Set"], unfollowed := true, recurses := true, named := ["loop.example/g00318/impl.errNoBox", "errors.errorType"], ifaces := true, apart := false, laid := [("errors.errorType", laid_errors_errorType), ("loop.example/g00318/impl.errNoBox", laid_loop_example_g00318_impl_errNoBox)] }
def FnExactBoxOkSaid : Prop := fnExactBoxOkRow.holds Tryd.pinned (OpenSpec.ofChange fnExactBoxOkSpec)

/-- ITS FALSE NEIGHBOUR: 'it returns false'. Refute it at one input. -/
def fnExactBoxOkWrong : ChangeSpec := { name := "fnExactBoxOk", vars := ["loop.example/g00318/impl.errNoBox"], fn := fun _ => fun
  | [d, g1] => { results := [.lit (.bool false)], args := [d], vars := [g1] }
  | _ => none }
def FnExactBoxOkWrongFalsely : Prop := fnExactBoxOkRow.holds Tryd.pinned (OpenSpec.ofChange fnExactBoxOkWrong)

/-- 'laws.FnExactBoxOf': WHATEVER THE INPUT: true; the input reads as it did. -/
def fnExactBoxOfSpec : ChangeSpec := { name := "fnExactBoxOf", vars := ["loop.example/g00318/impl.errNoBox"], fn := fun _ => fun
  | [d1, d2, d3, g1] => { results := [.lit (.bool true)], args := [d1, d2, d3], vars := [g1] }
  | _ => none }
def fnExactBoxOfRow : OpenClaim := { program := "ytcolcnkjcagbaaadoor", sum := "4df97879b6c8d4fb4691412383b3c074915d70334acfb80737a6e037f7772781", func := "loop.example/g00318/laws.FnExactBoxOf", spec := "fnExactBoxOf", inPlace := ["internal/bytealg.IndexByteString", "internal/reflectlite.TypeOf", "internal/reflectlite.ValueOf", "(internal/reflectlite.Value).Type", "(internal/reflectlite.Value).IsNil", "(internal/reflectlite.Value).Elem", "(internal/reflectlite.Value).Set"], unfollowed := true, recurses := true, named := ["loop.example/g00318/impl.errNoBox", "errors.errorType"], ifaces := true, apart := false, laid := [("errors.errorType", laid_errors_errorType), ("loop.example/g00318/impl.errNoBox", laid_loop_example_g00318_impl_errNoBox)] }
def FnExactBoxOfSaid : Prop := fnExactBoxOfRow.holds Tryd.pinned (OpenSpec.ofChange fnExactBoxOfSpec)

/-- ITS FALSE NEIGHBOUR: 'it returns false'. Refute it at one input. -/
def fnExactBoxOfWrong : ChangeSpec := { name := "fnExactBoxOf", vars := ["loop.example/g00318/impl.errNoBox"], fn := fun _ => fun
  | [d1, d2, d3, g1] => { results := [.lit (.bool false)], args := [d1, d2, d3], vars := [g1] }
  | _ => none }
def FnExactBoxOfWrongFalsely : Prop := fnExactBoxOfRow.holds Tryd.pinned (OpenSpec.ofChange fnExactBoxOfWrong)

/-- 'laws.FnExactReadersOf': WHATEVER THE INPUT: true; the input reads as it did. -/
def fnExactReadersOfSpec : ChangeSpec := { name := "fnExactReadersOf", vars := ["loop.example/g00318/impl.errNoBox"], fn := fun _ => fun
  | [d1, d2, g1] => { results := [.lit (.bool true)], args := [d1, d2], vars := [g1] }
  | _ => none }
def fnExactReadersOfRow : OpenClaim := { program := "ytcolcnkjcagbaaadoor", sum := "4df97879b6c8d4fb4691412383b3c074915d70334acfb80737a6e037f7772781", func := "loop.example/g00318/laws.FnExactReadersOf", spec := "fnExactReadersOf", inPlace := ["internal/bytealg.IndexByteString", "internal/reflectlite.TypeOf", "internal/reflectlite.ValueOf", "(internal/reflectlite.Value).Type", "(internal/reflectlite.Value).IsNil", "(internal/reflectlite.Value).Elem", "(internal/reflectlite.Value).Set"], unfollowed := true, recurses := true, named := ["loop.example/g00318/impl.errNoBox", "errors.errorType"], ifaces := true, apart := false, laid := [("errors.errorType", laid_errors_errorType), ("loop.example/g00318/impl.errNoBox", laid_loop_example_g00318_impl_errNoBox)] }
def FnExactReadersOfSaid : Prop := fnExactReadersOfRow.holds Tryd.pinned (OpenSpec.ofChange fnExactReadersOfSpec)

/-- ITS FALSE NEIGHBOUR: 'it returns false'. Refute it at one input. -/
def fnExactReadersOfWrong : ChangeSpec := { name := "fnExactReadersOf", vars := ["loop.example/g00318/impl.errNoBox"], fn := fun _ => fun
  | [d1, d2, g1] => { results := [.lit (.bool false)], args := [d1, d2], vars := [g1] }
  | _ => none }
def FnExactReadersOfWrongFalsely : Prop := fnExactReadersOfRow.holds Tryd.pinned (OpenSpec.ofChange fnExactReadersOfWrong)

/- THE SECOND FORM. 'bulk': how many values and letters a reading holds, each counted each time it is reached (what is shared counts as often as it is met; a slice's spare places count too). A statement '..UptoSaid' is the law's where the arguments, and the package variables that the reading takes, are together of bulk at most 1048576: NARROWER than '..Said'. Prove '..Said' where nothing that the law and all that it calls make is longer than what came in: it says more and counts as full. Else prove '..UptoSaid'. A law counts once. -/
mutual
def uptoBulk {H : Type} : DataW H → Nat
  | .lit (.string bytes) => bytes.length + 1
  | .lit _ => 1
  | .nil => 1
  | .ptr d => uptoBulk d + 1
  | .slice elems spare => uptoBulkAll elems + uptoBulkAll spare + 1
  | .agg parts => uptoBulkAll parts + 1
  | .iface _ d => uptoBulk d + 1
  | .map entries => uptoBulkEntries entries + 1
  | .held _ => 1
def uptoBulkAll {H : Type} : List (DataW H) → Nat
  | [] => 0
  | d :: r => uptoBulk d + uptoBulkAll r
def uptoBulkEntries {H : Type} : List (Lit × DataW H) → Nat
  | [] => 0
  | x :: r => uptoBulkEntry x + uptoBulkEntries r
def uptoBulkEntry {H : Type} : Lit × DataW H → Nat
  | (.string bytes, d) => bytes.length + uptoBulk d + 1
  | (_, d) => uptoBulk d + 1
 end
def uptoSmall : (H : Type) → List (DataW H) → Bool := fun _ ds => decide (uptoBulkAll ds ≤ 1048576)
def OpenSpec.upto (s : _root_.Go.ChangeSpec) : _root_.Go.OpenSpec := { _root_.Go.OpenSpec.ofChange s with cond := some uptoSmall }

/-- 'laws.FnExactBoxOk', WHERE WHAT IT READS IS OF BULK AT MOST 1048576: true; the input reads as it did. -/
def fnExactBoxOkUptoRow : OpenClaim := { program := "ytcolcnkjcagbaaadoor", sum := "4df97879b6c8d4fb4691412383b3c074915d70334acfb80737a6e037f7772781", func := "loop.example/g00318/laws.FnExactBoxOk", spec := "fnExactBoxOk", inPlace := ["internal/bytealg.IndexByteString", "internal/reflectlite.TypeOf", "internal/reflectlite.ValueOf", "(internal/reflectlite.Value).Type", "(internal/reflectlite.Value).IsNil", "(internal/reflectlite.Value).Elem", "(internal/reflectlite.Value).Set"], unfollowed := true, recurses := true, named := ["loop.example/g00318/impl.errNoBox", "errors.errorType"], ifaces := true, apart := false, laid := [("errors.errorType", laid_errors_errorType), ("loop.example/g00318/impl.errNoBox", laid_loop_example_g00318_impl_errNoBox)], narrowed := true }
def FnExactBoxOkUptoSaid : Prop := fnExactBoxOkUptoRow.holds Tryd.pinned (OpenSpec.upto fnExactBoxOkSpec)

/-- 'laws.FnExactBoxOf', WHERE WHAT IT READS IS OF BULK AT MOST 1048576: true; the input reads as it did. -/
def fnExactBoxOfUptoRow : OpenClaim := { program := "ytcolcnkjcagbaaadoor", sum := "4df97879b6c8d4fb4691412383b3c074915d70334acfb80737a6e037f7772781", func := "loop.example/g00318/laws.FnExactBoxOf", spec := "fnExactBoxOf", inPlace := ["internal/bytealg.IndexByteString", "internal/reflectlite.TypeOf", "internal/reflectlite.ValueOf", "(internal/reflectlite.Value).Type", "(internal/reflectlite.Value).IsNil", "(internal/reflectlite.Value).Elem", "(internal/reflectlite.Value).Set"], unfollowed := true, recurses := true, named := ["loop.example/g00318/impl.errNoBox", "errors.errorType"], ifaces := true, apart := false, laid := [("errors.errorType", laid_errors_errorType), ("loop.example/g00318/impl.errNoBox", laid_loop_example_g00318_impl_errNoBox)], narrowed := true }
def FnExactBoxOfUptoSaid : Prop := fnExactBoxOfUptoRow.holds Tryd.pinned (OpenSpec.upto fnExactBoxOfSpec)

/-- 'laws.FnExactReadersOf', WHERE WHAT IT READS IS OF BULK AT MOST 1048576: true; the input reads as it did. -/
def fnExactReadersOfUptoRow : OpenClaim := { program := "ytcolcnkjcagbaaadoor", sum := "4df97879b6c8d4fb4691412383b3c074915d70334acfb80737a6e037f7772781", func := "loop.example/g00318/laws.FnExactReadersOf", spec := "fnExactReadersOf", inPlace := ["internal/bytealg.IndexByteString", "internal/reflectlite.TypeOf", "internal/reflectlite.ValueOf", "(internal/reflectlite.Value).Type", "(internal/reflectlite.Value).IsNil", "(internal/reflectlite.Value).Elem", "(internal/reflectlite.Value).Set"], unfollowed := true, recurses := true, named := ["loop.example/g00318/impl.errNoBox", "errors.errorType"], ifaces := true, apart := false, laid := [("errors.errorType", laid_errors_errorType), ("loop.example/g00318/impl.errNoBox", laid_loop_example_g00318_impl_errNoBox)], narrowed := true }
def FnExactReadersOfUptoSaid : Prop := fnExactReadersOfUptoRow.holds Tryd.pinned (OpenSpec.upto fnExactReadersOfSpec)

end Rows
end Go.Proofs.YtcolcnkjcagbaaaDoor
