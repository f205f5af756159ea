/-
  The specification's reader's add, and its small methods once more, each in one contract over the reader's whole state. No condition but that the reader lies in memory.
-/
import Derived.Test.YtcolcnkjcagbaaaDoorSNum
import Derived.Deep.AppendLies
import Derived.OwnWalk
namespace Go.Proofs.YtcolcnkjcagbaaaDoor
open Go.RowKit
set_option linter.unusedVariables false

abbrev Nd : Type := Int × Int × Int × Int

/-- the cells of nodes in a row -/
def ndCells : List Nd → List Value
  | [] => []
  | (k, n, a, b) :: l => .int .i64 k :: .int .i64 n :: .int .i64 a :: .int .i64 b :: ndCells l

theorem ndCells_append : ∀ (l m : List Nd), ndCells (l ++ m) = ndCells l ++ ndCells m
  | [], m => rfl
  | (k, n, a, b) :: l, m => by simp [ndCells, ndCells_append l m]

theorem own_mut {w w' : World} {R : Nat} {e : TypeId} {size : Nat} {v : Value} {n : Nat} {xs : List Value} (h : w.ownsRow (R + 1) e size v n xs) (hM : Mut R w w') : w'.ownsRow (R + 1) e size v n xs := by
  obtain ⟨h1, h2⟩ := h
  refine ⟨h1, ?_⟩
  rcases h2 with h2 | ⟨g, cap, cur, hv, hg, hh, r⟩
  · exact Or.inl h2
  · exact Or.inr ⟨g, cap, cur, hv, hg, (hM.block g (lt_of_block hh) (by omega)).trans hh, r⟩

end Go.Proofs.YtcolcnkjcagbaaaDoor
