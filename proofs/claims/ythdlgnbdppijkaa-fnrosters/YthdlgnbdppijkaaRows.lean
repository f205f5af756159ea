/-
  No cell of these rows narrows 'for every input' (looked for: loops, veiled, ifaces, maps, wideKeys, modest, calm, conditions, laid).
  DERIVED. THE GIVEN ROWS OF THIS SEAT. 3 by the template 'for every input the law returns true; each argument reads behind the call as it read before'; 0 by the template 'total and deterministic' (their statements: YthdlgnbdppijkaaTotals.lean).
  GIVEN WITH THE SEED: the statements are not yours to turn. If you find one false, say at which input.
  Laid BY PROGRAM, IN A SANDBOX (cutbox-rows.mjs): the forced cells as the released guide's own fill.sh prints them over the translation 1a7817f32a75af31… (all of the seat's roots in one cut). By AI agents, Wed Nov 11 2026. No macro, syntax, notation, axiom, sorry.
-/
import Derived.Test.YthdlgnbdppijkaaChecked
import GoSem.Claim
import GoSem.ClaimJoined
import GoSem.ClaimMapViews
import Derived.JoinedTies
import Derived.KernelRfl
namespace Go.Proofs.Ythdlgnbdppijkaa
/- THE CELL 'sum', in the pinned program and in every row, IS THE sha256 OF THE DUMP (.gsa) THAT YthdlgnbdppijkaaProg.lean LOADS. Nothing in Lean hashes anything: it is a label: what it is worth is what the hold of that sum in a sandbox is worth. -/
noncomputable def Try.pinned : Pinned := { name := "ythdlgnbdppijkaa", sum := "1a7817f32a75af311007ebadf0a4859bb42b19bc5fe846f79de6cde6c70bd2df", checked := Try.checked }
namespace Rows
def none {H : Type} : Left H := { results := [], args := [] }

/-- 'laws.FnRosters': WHATEVER THE INPUT: true; the input reads as it did. -/
def fnRostersSpec : ChangeSpec := { name := "fnRosters", fn := fun _ => fun
  | [d] => { results := [.lit (.bool true)], args := [d] }
  | _ => none }
def fnRostersRow : OpenClaim := { program := "ythdlgnbdppijkaa", sum := "1a7817f32a75af311007ebadf0a4859bb42b19bc5fe846f79de6cde6c70bd2df", func := "loop.example/g00318/laws.FnRosters", spec := "fnRosters", unfollowed := true, recurses := true, apart := false }
def FnRostersSaid : Prop := fnRostersRow.holds Try.pinned (OpenSpec.ofChange fnRostersSpec)

/-- ITS FALSE NEIGHBOUR: 'it returns false'. Refute it at one input. -/
def fnRostersWrong : ChangeSpec := { name := "fnRosters", fn := fun _ => fun
  | [d] => { results := [.lit (.bool false)], args := [d] }
  | _ => none }
def FnRostersWrongFalsely : Prop := fnRostersRow.holds Try.pinned (OpenSpec.ofChange fnRostersWrong)

/-- 'laws.FnDropsWin': WHATEVER THE INPUT: true; the input reads as it did. -/
def fnDropsWinSpec : ChangeSpec := { name := "fnDropsWin", fn := fun _ => fun
  | [d] => { results := [.lit (.bool true)], args := [d] }
  | _ => none }
def fnDropsWinRow : OpenClaim := { program := "ythdlgnbdppijkaa", sum := "1a7817f32a75af311007ebadf0a4859bb42b19bc5fe846f79de6cde6c70bd2df", func := "loop.example/g00318/laws.FnDropsWin", spec := "fnDropsWin", unfollowed := true, recurses := true, apart := false }
def FnDropsWinSaid : Prop := fnDropsWinRow.holds Try.pinned (OpenSpec.ofChange fnDropsWinSpec)

/-- ITS FALSE NEIGHBOUR: 'it returns false'. Refute it at one input. -/
def fnDropsWinWrong : ChangeSpec := { name := "fnDropsWin", fn := fun _ => fun
  | [d] => { results := [.lit (.bool false)], args := [d] }
  | _ => none }
def FnDropsWinWrongFalsely : Prop := fnDropsWinRow.holds Try.pinned (OpenSpec.ofChange fnDropsWinWrong)

/-- 'laws.FnAdminsAlone': WHATEVER THE INPUT: true; the input reads as it did. -/
def fnAdminsAloneSpec : ChangeSpec := { name := "fnAdminsAlone", fn := fun _ => fun
  | [d] => { results := [.lit (.bool true)], args := [d] }
  | _ => none }
def fnAdminsAloneRow : OpenClaim := { program := "ythdlgnbdppijkaa", sum := "1a7817f32a75af311007ebadf0a4859bb42b19bc5fe846f79de6cde6c70bd2df", func := "loop.example/g00318/laws.FnAdminsAlone", spec := "fnAdminsAlone", unfollowed := true, recurses := true, apart := false }
def FnAdminsAloneSaid : Prop := fnAdminsAloneRow.holds Try.pinned (OpenSpec.ofChange fnAdminsAloneSpec)

/-- ITS FALSE NEIGHBOUR: 'it returns false'. Refute it at one input. -/
def fnAdminsAloneWrong : ChangeSpec := { name := "fnAdminsAlone", fn := fun _ => fun
  | [d] => { results := [.lit (.bool false)], args := [d] }
  | _ => none }
def FnAdminsAloneWrongFalsely : Prop := fnAdminsAloneRow.holds Try.pinned (OpenSpec.ofChange fnAdminsAloneWrong)

/- THE SECOND FORM. 'bulk': how many values and letters a reading holds, each counted each time it is reached (what is shared counts as often as it is met; a slice's spare places count too). A statement '..UptoSaid' is the law's where the arguments, and the package variables that the reading takes, are together of bulk at most 1048576: NARROWER than '..Said'. Prove '..Said' where nothing that the law and all that it calls make is longer than what came in: it says more and counts as full. Else prove '..UptoSaid'. A law counts once. -/
mutual
def uptoBulk {H : Type} : DataW H → Nat
  | .lit (.string bytes) => bytes.length + 1
  | .lit _ => 1
  | .nil => 1
  | .ptr d => uptoBulk d + 1
  | .slice elems spare => uptoBulkAll elems + uptoBulkAll spare + 1
  | .agg parts => uptoBulkAll parts + 1
  | .iface _ d => uptoBulk d + 1
  | .map entries => uptoBulkEntries entries + 1
  | .held _ => 1
def uptoBulkAll {H : Type} : List (DataW H) → Nat
  | [] => 0
  | d :: r => uptoBulk d + uptoBulkAll r
def uptoBulkEntries {H : Type} : List (Lit × DataW H) → Nat
  | [] => 0
  | x :: r => uptoBulkEntry x + uptoBulkEntries r
def uptoBulkEntry {H : Type} : Lit × DataW H → Nat
  | (.string bytes, d) => bytes.length + uptoBulk d + 1
  | (_, d) => uptoBulk d + 1
 end
def uptoSmall : (H : Type) → List (DataW H) → Bool := fun _ ds => decide (uptoBulkAll ds ≤ 1048576)
def OpenSpec.upto (s : _root_.Go.ChangeSpec) : _root_.Go.OpenSpec := { _root_.Go.OpenSpec.ofChange s with cond := some uptoSmall }

/-- 'laws.FnRosters', WHERE WHAT IT READS IS OF BULK AT MOST 1048576: true; the input reads as it did. -/
def fnRostersUptoRow : OpenClaim := { program := "ythdlgnbdppijkaa", sum := "1a7817f32a75af311007ebadf0a4859bb42b19bc5fe846f79de6cde6c70bd2df", func := "loop.example/g00318/laws.FnRosters", spec := "fnRosters", unfollowed := true, recurses := true, apart := false, narrowed := true }
def FnRostersUptoSaid : Prop := fnRostersUptoRow.holds Try.pinned (OpenSpec.upto fnRostersSpec)

/-- 'laws.FnDropsWin', WHERE WHAT IT READS IS OF BULK AT MOST 1048576: true; the input reads as it did. -/
def fnDropsWinUptoRow : OpenClaim := { program := "ythdlgnbdppijkaa", sum := "1a7817f32a75af311007ebadf0a4859bb42b19bc5fe846f79de6cde6c70bd2df", func := "loop.example/g00318/laws.FnDropsWin", spec := "fnDropsWin", unfollowed := true, recurses := true, apart := false, narrowed := true }
def FnDropsWinUptoSaid : Prop := fnDropsWinUptoRow.holds Try.pinned (OpenSpec.upto fnDropsWinSpec)

/-- 'laws.FnAdminsAlone', WHERE WHAT IT READS IS OF BULK AT MOST 1048576: true; the input reads as it did. -/
def fnAdminsAloneUptoRow : OpenClaim := { program := "ythdlgnbdppijkaa", sum := "1a7817f32a75af311007ebadf0a4859bb42b19bc5fe846f79de6cde6c70bd2df", func := "loop.example/g00318/laws.FnAdminsAlone", spec := "fnAdminsAlone", unfollowed := true, recurses := true, apart := false, narrowed := true }
def FnAdminsAloneUptoSaid : Prop := fnAdminsAloneUptoRow.holds Try.pinned (OpenSpec.upto fnAdminsAloneSpec)

end Rows
end Go.Proofs.Ythdlgnbdppijkaa
