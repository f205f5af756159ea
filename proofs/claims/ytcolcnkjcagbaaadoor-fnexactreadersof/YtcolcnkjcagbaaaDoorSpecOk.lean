/-
  The specification's TermOk answers the plain test of the nodes. No condition but that the slice reads.
-/
import Derived.Test.YtcolcnkjcagbaaaDoorSpecTree
namespace Go.Proofs.YtcolcnkjcagbaaaDoor
open Go.RowKit
set_option linter.unusedVariables false

theorem fOk_ways {k n a b : Int} : fOk k n a b = true ↔ (1 ≤ k ∧ k ≤ 7) ∧ (0 ≤ n ∧ n ≤ 999) ∧ (k = 4 ∨ k = 5 → n = 0) ∧ (kidsI k = 0 → a = 0) ∧ (kidsI k < 2 → b = 0) := by
  by_cases hk : k < 1 ∨ 7 < k
  · rw [fOk_none hk]
    constructor
    · intro h; cases h
    · intro h; omega
  · rcases (show k = 1 ∨ k = 2 ∨ k = 3 ∨ k = 4 ∨ k = 5 ∨ k = 6 ∨ k = 7 by omega) with rfl | rfl | rfl | rfl | rfl | rfl | rfl
    all_goals
      simp [fOk, numB, kidsI]
      try omega

theorem fOk_off {k n a b : Int} (h : ¬ ((1 ≤ k ∧ k ≤ 7) ∧ (0 ≤ n ∧ n ≤ 999) ∧ (k = 4 ∨ k = 5 → n = 0) ∧ (kidsI k = 0 → a = 0) ∧ (kidsI k < 2 → b = 0))) : fOk k n a b = false := by
  have : ¬ (fOk k n a b = true) := fun h' => h (fOk_ways.1 h')
  simpa using this

section
variable {Kd N A B : Nat → Int}

theorem allOk_succ (n : Nat) : allOk Kd N A B (n + 1) = (allOk Kd N A B n && fOk (Kd n) (N n) (A n) (B n)) := by
  unfold allOk
  rw [List.range_succ, List.all_append]
  simp

theorem allOk_false {n k : Nat} (hk : k < n) (h : fOk (Kd k) (N k) (A k) (B k) = false) : allOk Kd N A B n = false := by
  have : ¬ (allOk Kd N A B n = true) := by
    unfold allOk
    rw [List.all_eq_true]
    intro h'
    have := h' k (List.mem_range.2 hk)
    rw [h] at this
    cases this
  simpa using this

theorem sOk_no {len : Nat} (h : len < 1 ∨ 40 < len) : sOk Kd N A B len = false := by unfold sOk; rw [if_pos h]
theorem sOk_bad {len : Nat} (h : allOk Kd N A B len = false) : sOk Kd N A B len = false := by
  unfold sOk; rw [h]; split <;> rfl
theorem sOk_all {len : Nat} (h : ¬ (len < 1 ∨ 40 < len)) (h2 : allOk Kd N A B len = true) : sOk Kd N A B len = ((sT Kd A B len (len - 1)).1 == 0 && decide ((sT Kd A B len (len - 1)).2 ≤ 10)) := by
  unfold sOk; rw [if_neg h, h2]; rfl

end
end Go.Proofs.YtcolcnkjcagbaaaDoor
