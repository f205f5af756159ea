/-
  The specification's l1Tree and TermOk return what the plain search returns. No condition but that the slice reads.
-/
import Derived.Test.YtcolcnkjcagbaaaDoorTermAt
namespace Go.Proofs.YtcolcnkjcagbaaaDoor
open Go.RowKit
set_option linter.unusedVariables false

section
variable {Kd N A B : Nat → Int}

theorem sT_leaf {f n : Nat} (h : kidsI (Kd n) = 0) : sT Kd A B (f + 1) n = ((n : Int), 1) := by unfold sT; rw [if_pos h]
theorem sT_one0 {f n : Nat} (h : kidsI (Kd n) = 1) (h1 : n = 0 ∨ A n ≠ (n : Int) - 1) : sT Kd A B (f + 1) n = (-1, 0) := by
  unfold sT; rw [if_neg (by omega), if_pos h, if_pos h1]
theorem sT_one1 {f n : Nat} {x d : Int} (h : kidsI (Kd n) = 1) (h1 : ¬ (n = 0 ∨ A n ≠ (n : Int) - 1)) (e : sT Kd A B f (n - 1) = (x, d)) (hx : x < 0) : sT Kd A B (f + 1) n = (-1, 0) := by
  unfold sT; rw [if_neg (by omega), if_pos h, if_neg h1, e, if_pos hx]
theorem sT_one2 {f n : Nat} {x d : Int} (h : kidsI (Kd n) = 1) (h1 : ¬ (n = 0 ∨ A n ≠ (n : Int) - 1)) (e : sT Kd A B f (n - 1) = (x, d)) (hx : ¬ x < 0) : sT Kd A B (f + 1) n = (x, max 0 d + 1) := by
  unfold sT; rw [if_neg (by omega), if_pos h, if_neg h1, e, if_neg hx]

theorem sT_two0 {f n : Nat} (h : kidsI (Kd n) = 2) (h1 : n = 0 ∨ B n ≠ (n : Int) - 1) : sT Kd A B (f + 1) n = (-1, 0) := by
  unfold sT; rw [if_neg (by omega), if_neg (by omega), if_pos h1]
theorem sT_two1 {f n : Nat} {x d : Int} (h : kidsI (Kd n) = 2) (h1 : ¬ (n = 0 ∨ B n ≠ (n : Int) - 1)) (e : sT Kd A B f (n - 1) = (x, d)) (hx : x < 0) : sT Kd A B (f + 1) n = (-1, 0) := by
  unfold sT; rw [if_neg (by omega), if_neg (by omega), if_neg h1, e, if_pos hx]
theorem sT_two2 {f n : Nat} {x d : Int} (h : kidsI (Kd n) = 2) (h1 : ¬ (n = 0 ∨ B n ≠ (n : Int) - 1)) (e : sT Kd A B f (n - 1) = (x, d)) (hx : ¬ x < 0) (h2 : x = 0 ∨ A n ≠ x - 1) : sT Kd A B (f + 1) n = (-1, 0) := by
  unfold sT; rw [if_neg (by omega), if_neg (by omega), if_neg h1, e, if_neg hx, if_pos h2]
theorem sT_two3 {f n : Nat} {x d y d' : Int} (h : kidsI (Kd n) = 2) (h1 : ¬ (n = 0 ∨ B n ≠ (n : Int) - 1)) (e : sT Kd A B f (n - 1) = (x, d)) (hx : ¬ x < 0) (h2 : ¬ (x = 0 ∨ A n ≠ x - 1)) (e2 : sT Kd A B f (x - 1).toNat = (y, d')) (hy : y < 0) : sT Kd A B (f + 1) n = (-1, 0) := by
  unfold sT; rw [if_neg (by omega), if_neg (by omega), if_neg h1, e, if_neg hx, if_neg h2, e2, if_pos hy]
theorem sT_two4 {f n : Nat} {x d y d' : Int} (h : kidsI (Kd n) = 2) (h1 : ¬ (n = 0 ∨ B n ≠ (n : Int) - 1)) (e : sT Kd A B f (n - 1) = (x, d)) (hx : ¬ x < 0) (h2 : ¬ (x = 0 ∨ A n ≠ x - 1)) (e2 : sT Kd A B f (x - 1).toNat = (y, d')) (hy : ¬ y < 0) : sT Kd A B (f + 1) n = (y, max (max 0 d) d' + 1) := by
  unfold sT; rw [if_neg (by omega), if_neg (by omega), if_neg h1, e, if_neg hx, if_neg h2, e2, if_neg hy]

end
end Go.Proofs.YtcolcnkjcagbaaaDoor
