/-
  Slices of elements that came in read as plain data. No condition.
-/
import Derived.Test.YtjfciokpnhnhbaaEv
import Derived.Test.YtjfciokpnhnhbaaRows
import Derived.ProofKit
import Derived.OpenShut
import Derived.ShutString
import Derived.ChangeOld
import Derived.SizedLaws
namespace Go.Proofs.Ytjfciokpnhnhbaa
open Go.ChangeShapes Go.WideShapes Go.ChangeAt Go.RowKit Go.Deep
set_option linter.unusedVariables false

theorem list4 {α : Type} {l : List α} (h : l.length = 4) : ∃ a b c d, l = [a, b, c, d] := by
  match l, h with
  | [a, b, c, d], _ => exact ⟨a, b, c, d, rfl⟩

/-- what is known of every element that came in -/
def Ev.in (x : Ev) : Prop := x.d.size ≤ 9223372036854775807 ∧ (Lit.int .i64 x.c).wf = true

def evNone : Ev := ⟨0, 0, 0, ⟨#[]⟩⟩