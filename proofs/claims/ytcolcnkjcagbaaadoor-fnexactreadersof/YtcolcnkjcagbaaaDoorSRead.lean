/-
  The specification's TermText and ReadTerm, where the nodes are those of a term or are not right. No condition but that the slices read.
-/
import Derived.Test.YtcolcnkjcagbaaaDoorSText
import Derived.Test.YtcolcnkjcagbaaaDoorSpecOk
namespace Go.Proofs.YtcolcnkjcagbaaaDoor
open Go.RowKit
set_option linter.unusedVariables false

section
variable {Kd N A B : Nat → Int}

end

/-- the nodes of a list, by their place -/
def ndK (l : List Nd) (i : Nat) : Int := (l.getD i (0, 0, 0, 0)).1
def ndN (l : List Nd) (i : Nat) : Int := (l.getD i (0, 0, 0, 0)).2.1
def ndA (l : List Nd) (i : Nat) : Int := (l.getD i (0, 0, 0, 0)).2.2.1
def ndB (l : List Nd) (i : Nat) : Int := (l.getD i (0, 0, 0, 0)).2.2.2

theorem ndCells_get : ∀ (l : List Nd) (i : Nat), i < l.length → (ndCells l)[i * 4]? = some (.int .i64 (ndK l i)) ∧ (ndCells l)[i * 4 + 1]? = some (.int .i64 (ndN l i)) ∧ (ndCells l)[i * 4 + 2]? = some (.int .i64 (ndA l i)) ∧ (ndCells l)[i * 4 + 3]? = some (.int .i64 (ndB l i))
  | [], i, h => by simp at h
  | (k, n, a, b) :: l, 0, h => ⟨rfl, rfl, rfl, rfl⟩
  | (k, n, a, b) :: l, i + 1, h => by
    have ih := ndCells_get l i (by simpa using h)
    have e : ∀ r, (ndCells ((k, n, a, b) :: l))[(i + 1) * 4 + r]? = (ndCells l)[i * 4 + r]? := fun r => by
      rw [show (i + 1) * 4 + r = (i * 4 + r) + 4 by omega]
      rfl
    exact ⟨(e 0).trans ih.1, (e 1).trans ih.2.1, (e 2).trans ih.2.2.1, (e 3).trans ih.2.2.2⟩

end Go.Proofs.YtcolcnkjcagbaaaDoor
