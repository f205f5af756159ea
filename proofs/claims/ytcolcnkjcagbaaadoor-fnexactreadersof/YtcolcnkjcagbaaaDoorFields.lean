/-
  The test of one node's fields: the program's fieldsOk and the specification's l1Kids, l1In answer plain tests. No condition.
-/
import Derived.Test.YtcolcnkjcagbaaaDoorNodes
namespace Go.Proofs.YtcolcnkjcagbaaaDoor
open Go.RowKit
set_option linter.unusedVariables false

def numB (n : Int) : Bool := decide (0 ≤ n) && decide (n ≤ 999)
theorem numB_true {n : Int} (h1 : 0 ≤ n) (h2 : n ≤ 999) : numB n = true := by simp [numB, h1, h2]
theorem numB_false {n : Int} (h : ¬ (0 ≤ n ∧ n ≤ 999)) : numB n = false := by
  have : ¬ (numB n = true) := by simp [numB]; omega
  simpa using this

/-- the fields of one node are right -/
def fOk (k n a b : Int) : Bool :=
  if k = 1 ∨ k = 2 ∨ k = 3 then numB n && (a == 0) && (b == 0)
  else if k = 4 then (n == 0) && (b == 0)
  else if k = 5 then (n == 0)
  else if k = 6 ∨ k = 7 then numB n && (b == 0)
  else false

theorem fOk_leaf {k n a b : Int} (h : k = 1 ∨ k = 2 ∨ k = 3) : fOk k n a b = (numB n && (a == 0) && (b == 0)) := by
  unfold fOk
  rw [if_pos h]
theorem fOk_hash {n a b : Int} : fOk 4 n a b = ((n == 0) && (b == 0)) := rfl
theorem fOk_pair {n a b : Int} : fOk 5 n a b = (n == 0) := rfl
theorem fOk_keyed {k n a b : Int} (h : k = 6 ∨ k = 7) : fOk k n a b = (numB n && (b == 0)) := by
  unfold fOk
  rw [if_neg (by omega), if_neg (by omega), if_neg (by omega), if_pos h]
theorem fOk_none {k n a b : Int} (h : k < 1 ∨ 7 < k) : fOk k n a b = false := by
  unfold fOk
  rw [if_neg (by omega), if_neg (by omega), if_neg (by omega), if_neg (by omega)]

set_option maxHeartbeats 400000 in
/-- how many terms a node stands behind -/
def kidsI (k : Int) : Int := if k = 4 ∨ k = 6 ∨ k = 7 then 1 else if k = 5 then 2 else 0

def inB (n lo hi : Int) : Bool := decide (lo ≤ n) && decide (n ≤ hi)
theorem inB_true {n lo hi : Int} (h : lo ≤ n ∧ n ≤ hi) : inB n lo hi = true := by simp [inB, h.1, h.2]
theorem inB_false {n lo hi : Int} (h : ¬ (lo ≤ n ∧ n ≤ hi)) : inB n lo hi = false := by
  have : ¬ (inB n lo hi = true) := by simp [inB]; omega
  simpa using this

theorem l1In_any (n lo hi : Int) (w : World) :
    Calls Tryd.prog 23 #[.int .i64 n, .int .i64 lo, .int .i64 hi] w fun e w' => e = .returned (.bool (inB n lo hi)) ∧ w' = w := by
  by_cases h1 : lo ≤ n
  · by_cases h2 : n ≤ hi
    · have hr : Hid (inB n lo hi = true) := inB_true ⟨h1, h2⟩
      go_enter Tryd.func23, Tryd.ntmps23
      go_wp2
      go_ret
      exact ⟨ret_bool hr.out.symm, rfl⟩
    · have hr : Hid (inB n lo hi = false) := inB_false (by omega)
      go_enter Tryd.func23, Tryd.ntmps23
      go_wp2
      go_ret
      exact ⟨ret_bool hr.out.symm, rfl⟩
  · have hr : Hid (inB n lo hi = false) := inB_false (by omega)
    go_enter Tryd.func23, Tryd.ntmps23
    go_wp2
    go_ret
    exact ⟨ret_bool hr.out.symm, rfl⟩

end Go.Proofs.YtcolcnkjcagbaaaDoor
