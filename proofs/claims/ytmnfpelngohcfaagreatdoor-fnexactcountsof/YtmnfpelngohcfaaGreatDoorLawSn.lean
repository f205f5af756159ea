/-
  A small law for the laws over a dag. No condition.
-/
import Derived.Test.YtmnfpelngohcfaaGreatDoorMark3
namespace Go.Proofs.YtmnfpelngohcfaaGreatDoor
open Go.RowKit
set_option linter.unusedVariables false

theorem NOwn.top {w : World} {base g len : Nat} {G n : Nat → Nat} (h : NOwn w base g len G n) : g < w.heap.size ∧ ∀ i, i < len → G i < w.heap.size := by
  obtain ⟨_, ys, ho, hr⟩ := h
  exact ⟨own_live ho, fun i hi => (hr i hi).2.1.lt⟩
end Go.Proofs.YtmnfpelngohcfaaGreatDoor
