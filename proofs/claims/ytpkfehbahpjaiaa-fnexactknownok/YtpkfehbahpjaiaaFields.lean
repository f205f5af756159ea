/-
  The test of one node's fields: the program's fieldsOk and the specification's l1Kids, l1In answer plain tests. No condition.
-/
import Derived.Test.YtpkfehbahpjaiaaNodes
namespace Go.Proofs.Ytpkfehbahpjaiaa
open Go.RowKit
set_option linter.unusedVariables false

def numB (n : Int) : Bool := decide (0 ≤ n) && decide (n ≤ 999)
theorem numB_true {n : Int} (h1 : 0 ≤ n) (h2 : n ≤ 999) : numB n = true := by simp [numB, h1, h2]
theorem numB_false {n : Int} (h : ¬ (0 ≤ n ∧ n ≤ 999)) : numB n = false := by
  have : ¬ (numB n = true) := by simp [numB]; omega
  simpa using this

/-- the fields of one node are right -/
def fOk (k n a b : Int) : Bool :=
  if k = 1 ∨ k = 2 ∨ k = 3 then numB n && (a == 0) && (b == 0)
  else if k = 4 then (n == 0) && (b == 0)
  else if k = 5 then (n == 0)
  else if k = 6 ∨ k = 7 then numB n && (b == 0)
  else false

theorem fOk_leaf {k n a b : Int} (h : k = 1 ∨ k = 2 ∨ k = 3) : fOk k n a b = (numB n && (a == 0) && (b == 0)) := by
  unfold fOk
  rw [if_pos h]
theorem fOk_hash {n a b : Int} : fOk 4 n a b = ((n == 0) && (b == 0)) := rfl
theorem fOk_pair {n a b : Int} : fOk 5 n a b = (n == 0) := rfl
theorem fOk_keyed {k n a b : Int} (h : k = 6 ∨ k = 7) : fOk k n a b = (numB n && (b == 0)) := by
  unfold fOk
  rw [if_neg (by omega), if_neg (by omega), if_neg (by omega), if_pos h]
theorem fOk_none {k n a b : Int} (h : k < 1 ∨ 7 < k) : fOk k n a b = false := by
  unfold fOk
  rw [if_neg (by omega), if_neg (by omega), if_neg (by omega), if_neg (by omega)]

set_option maxHeartbeats 400000 in
theorem fieldsOk_1 (n a b : Int) (w : World) :
    Calls Try.prog 91 #[.agg #[.int .i64 1, .int .i64 n, .int .i64 a, .int .i64 b]] w fun e w' => e = .returned (.bool (fOk 1 n a b)) ∧ Below w.heap.size w w' := by
  by_cases h1 : 0 ≤ n
  · by_cases h2 : n ≤ 999
    · by_cases h3 : a = 0
      · have hr : Hid (fOk 1 n a b = (b == 0)) := by
          show _ = _
          rw [fOk_leaf (by simp), numB_true h1 h2, h3]; simp
        have h3' : (a == 0) = true := by simpa using h3
        clear h3
        go_enter Try.func91, Try.ntmps91
        go_wp2
        go_ret
        exact ⟨ret_bool hr.out.symm, (Below.refl _ _).alloc (Nat.le_refl _) _⟩
      · have hr : Hid (fOk 1 n a b = false) := by
          show _ = _
          rw [fOk_leaf (by simp)]; simp [h3]
        have h3' : (a == 0) = false := by simpa using h3
        clear h3
        go_enter Try.func91, Try.ntmps91
        go_wp2
        go_ret
        exact ⟨ret_bool hr.out.symm, (Below.refl _ _).alloc (Nat.le_refl _) _⟩
    · have hr : Hid (fOk 1 n a b = false) := by
        show _ = _
        rw [fOk_leaf (by simp), numB_false (by omega)]; simp
      go_enter Try.func91, Try.ntmps91
      go_wp2
      go_ret
      exact ⟨ret_bool hr.out.symm, (Below.refl _ _).alloc (Nat.le_refl _) _⟩
  · have hr : Hid (fOk 1 n a b = false) := by
      show _ = _
      rw [fOk_leaf (by simp), numB_false (by omega)]; simp
    go_enter Try.func91, Try.ntmps91
    go_wp2
    go_ret
    exact ⟨ret_bool hr.out.symm, (Below.refl _ _).alloc (Nat.le_refl _) _⟩

set_option maxHeartbeats 400000 in
theorem fieldsOk_2 (n a b : Int) (w : World) :
    Calls Try.prog 91 #[.agg #[.int .i64 2, .int .i64 n, .int .i64 a, .int .i64 b]] w fun e w' => e = .returned (.bool (fOk 2 n a b)) ∧ Below w.heap.size w w' := by
  by_cases h1 : 0 ≤ n
  · by_cases h2 : n ≤ 999
    · by_cases h3 : a = 0
      · have hr : Hid (fOk 2 n a b = (b == 0)) := by
          show _ = _
          rw [fOk_leaf (by simp), numB_true h1 h2, h3]; simp
        have h3' : (a == 0) = true := by simpa using h3
        clear h3
        go_enter Try.func91, Try.ntmps91
        go_wp2
        go_ret
        exact ⟨ret_bool hr.out.symm, (Below.refl _ _).alloc (Nat.le_refl _) _⟩
      · have hr : Hid (fOk 2 n a b = false) := by
          show _ = _
          rw [fOk_leaf (by simp)]; simp [h3]
        have h3' : (a == 0) = false := by simpa using h3
        clear h3
        go_enter Try.func91, Try.ntmps91
        go_wp2
        go_ret
        exact ⟨ret_bool hr.out.symm, (Below.refl _ _).alloc (Nat.le_refl _) _⟩
    · have hr : Hid (fOk 2 n a b = false) := by
        show _ = _
        rw [fOk_leaf (by simp), numB_false (by omega)]; simp
      go_enter Try.func91, Try.ntmps91
      go_wp2
      go_ret
      exact ⟨ret_bool hr.out.symm, (Below.refl _ _).alloc (Nat.le_refl _) _⟩
  · have hr : Hid (fOk 2 n a b = false) := by
      show _ = _
      rw [fOk_leaf (by simp), numB_false (by omega)]; simp
    go_enter Try.func91, Try.ntmps91
    go_wp2
    go_ret
    exact ⟨ret_bool hr.out.symm, (Below.refl _ _).alloc (Nat.le_refl _) _⟩

set_option maxHeartbeats 400000 in
theorem fieldsOk_3 (n a b : Int) (w : World) :
    Calls Try.prog 91 #[.agg #[.int .i64 3, .int .i64 n, .int .i64 a, .int .i64 b]] w fun e w' => e = .returned (.bool (fOk 3 n a b)) ∧ Below w.heap.size w w' := by
  by_cases h1 : 0 ≤ n
  · by_cases h2 : n ≤ 999
    · by_cases h3 : a = 0
      · have hr : Hid (fOk 3 n a b = (b == 0)) := by
          show _ = _
          rw [fOk_leaf (by simp), numB_true h1 h2, h3]; simp
        have h3' : (a == 0) = true := by simpa using h3
        clear h3
        go_enter Try.func91, Try.ntmps91
        go_wp2
        go_ret
        exact ⟨ret_bool hr.out.symm, (Below.refl _ _).alloc (Nat.le_refl _) _⟩
      · have hr : Hid (fOk 3 n a b = false) := by
          show _ = _
          rw [fOk_leaf (by simp)]; simp [h3]
        have h3' : (a == 0) = false := by simpa using h3
        clear h3
        go_enter Try.func91, Try.ntmps91
        go_wp2
        go_ret
        exact ⟨ret_bool hr.out.symm, (Below.refl _ _).alloc (Nat.le_refl _) _⟩
    · have hr : Hid (fOk 3 n a b = false) := by
        show _ = _
        rw [fOk_leaf (by simp), numB_false (by omega)]; simp
      go_enter Try.func91, Try.ntmps91
      go_wp2
      go_ret
      exact ⟨ret_bool hr.out.symm, (Below.refl _ _).alloc (Nat.le_refl _) _⟩
  · have hr : Hid (fOk 3 n a b = false) := by
      show _ = _
      rw [fOk_leaf (by simp), numB_false (by omega)]; simp
    go_enter Try.func91, Try.ntmps91
    go_wp2
    go_ret
    exact ⟨ret_bool hr.out.symm, (Below.refl _ _).alloc (Nat.le_refl _) _⟩

set_option maxHeartbeats 400000 in
theorem fieldsOk_6 (n a b : Int) (w : World) :
    Calls Try.prog 91 #[.agg #[.int .i64 6, .int .i64 n, .int .i64 a, .int .i64 b]] w fun e w' => e = .returned (.bool (fOk 6 n a b)) ∧ Below w.heap.size w w' := by
  by_cases h1 : 0 ≤ n
  · by_cases h2 : n ≤ 999
    · have hr : Hid (fOk 6 n a b = (b == 0)) := by
        show _ = _
        rw [fOk_keyed (by simp), numB_true h1 h2]; simp
      go_enter Try.func91, Try.ntmps91
      go_wp2
      go_ret
      exact ⟨ret_bool hr.out.symm, (Below.refl _ _).alloc (Nat.le_refl _) _⟩
    · have hr : Hid (fOk 6 n a b = false) := by
        show _ = _
        rw [fOk_keyed (by simp), numB_false (by omega)]; simp
      go_enter Try.func91, Try.ntmps91
      go_wp2
      go_ret
      exact ⟨ret_bool hr.out.symm, (Below.refl _ _).alloc (Nat.le_refl _) _⟩
  · have hr : Hid (fOk 6 n a b = false) := by
      show _ = _
      rw [fOk_keyed (by simp), numB_false (by omega)]; simp
    go_enter Try.func91, Try.ntmps91
    go_wp2
    go_ret
    exact ⟨ret_bool hr.out.symm, (Below.refl _ _).alloc (Nat.le_refl _) _⟩

set_option maxHeartbeats 400000 in
theorem fieldsOk_7 (n a b : Int) (w : World) :
    Calls Try.prog 91 #[.agg #[.int .i64 7, .int .i64 n, .int .i64 a, .int .i64 b]] w fun e w' => e = .returned (.bool (fOk 7 n a b)) ∧ Below w.heap.size w w' := by
  by_cases h1 : 0 ≤ n
  · by_cases h2 : n ≤ 999
    · have hr : Hid (fOk 7 n a b = (b == 0)) := by
        show _ = _
        rw [fOk_keyed (by simp), numB_true h1 h2]; simp
      go_enter Try.func91, Try.ntmps91
      go_wp2
      go_ret
      exact ⟨ret_bool hr.out.symm, (Below.refl _ _).alloc (Nat.le_refl _) _⟩
    · have hr : Hid (fOk 7 n a b = false) := by
        show _ = _
        rw [fOk_keyed (by simp), numB_false (by omega)]; simp
      go_enter Try.func91, Try.ntmps91
      go_wp2
      go_ret
      exact ⟨ret_bool hr.out.symm, (Below.refl _ _).alloc (Nat.le_refl _) _⟩
  · have hr : Hid (fOk 7 n a b = false) := by
      show _ = _
      rw [fOk_keyed (by simp), numB_false (by omega)]; simp
    go_enter Try.func91, Try.ntmps91
    go_wp2
    go_ret
    exact ⟨ret_bool hr.out.symm, (Below.refl _ _).alloc (Nat.le_refl _) _⟩

set_option maxHeartbeats 400000 in
theorem fieldsOk_4 (n a b : Int) (w : World) :
    Calls Try.prog 91 #[.agg #[.int .i64 4, .int .i64 n, .int .i64 a, .int .i64 b]] w fun e w' => e = .returned (.bool (fOk 4 n a b)) ∧ Below w.heap.size w w' := by
  by_cases h1 : n = 0
  · have hr : Hid (fOk 4 n a b = (b == 0)) := by
      show _ = _
      rw [fOk_hash, h1]; simp
    have h1' : (n == 0) = true := by simpa using h1
    clear h1
    by_cases hn : 0 ≤ n
    · by_cases hn2 : n ≤ 999
      · go_enter Try.func91, Try.ntmps91
        go_wp2
        go_ret
        exact ⟨ret_bool hr.out.symm, (Below.refl _ _).alloc (Nat.le_refl _) _⟩
      · go_enter Try.func91, Try.ntmps91
        go_wp2
        go_ret
        exact ⟨ret_bool hr.out.symm, (Below.refl _ _).alloc (Nat.le_refl _) _⟩
    · go_enter Try.func91, Try.ntmps91
      go_wp2
      go_ret
      exact ⟨ret_bool hr.out.symm, (Below.refl _ _).alloc (Nat.le_refl _) _⟩
  · have hr : Hid (fOk 4 n a b = false) := by
      show _ = _
      rw [fOk_hash]; simp [h1]
    have h1' : (n == 0) = false := by simpa using h1
    clear h1
    by_cases hn : 0 ≤ n
    · by_cases hn2 : n ≤ 999
      · go_enter Try.func91, Try.ntmps91
        go_wp2
        go_ret
        exact ⟨ret_bool hr.out.symm, (Below.refl _ _).alloc (Nat.le_refl _) _⟩
      · go_enter Try.func91, Try.ntmps91
        go_wp2
        go_ret
        exact ⟨ret_bool hr.out.symm, (Below.refl _ _).alloc (Nat.le_refl _) _⟩
    · go_enter Try.func91, Try.ntmps91
      go_wp2
      go_ret
      exact ⟨ret_bool hr.out.symm, (Below.refl _ _).alloc (Nat.le_refl _) _⟩

set_option maxHeartbeats 400000 in
theorem fieldsOk_5 (n a b : Int) (w : World) :
    Calls Try.prog 91 #[.agg #[.int .i64 5, .int .i64 n, .int .i64 a, .int .i64 b]] w fun e w' => e = .returned (.bool (fOk 5 n a b)) ∧ Below w.heap.size w w' := by
  have hr : Hid (fOk 5 n a b = (n == 0)) := fOk_pair
  by_cases hn : 0 ≤ n
  · by_cases hn2 : n ≤ 999
    · go_enter Try.func91, Try.ntmps91
      go_wp2
      go_ret
      exact ⟨ret_bool hr.out.symm, (Below.refl _ _).alloc (Nat.le_refl _) _⟩
    · go_enter Try.func91, Try.ntmps91
      go_wp2
      go_ret
      exact ⟨ret_bool hr.out.symm, (Below.refl _ _).alloc (Nat.le_refl _) _⟩
  · go_enter Try.func91, Try.ntmps91
    go_wp2
    go_ret
    exact ⟨ret_bool hr.out.symm, (Below.refl _ _).alloc (Nat.le_refl _) _⟩

set_option maxHeartbeats 400000 in
theorem fieldsOk_0 (k n a b : Int) (w : World) (hk : k < 1 ∨ 7 < k) :
    Calls Try.prog 91 #[.agg #[.int .i64 k, .int .i64 n, .int .i64 a, .int .i64 b]] w fun e w' => e = .returned (.bool (fOk k n a b)) ∧ Below w.heap.size w w' := by
  have hr : Hid (fOk k n a b = false) := fOk_none hk
  have e1 : (k == 1) = false := by simp; omega
  have e2 : (k == 2) = false := by simp; omega
  have e3 : (k == 3) = false := by simp; omega
  have e4 : (k == 4) = false := by simp; omega
  have e5 : (k == 5) = false := by simp; omega
  have e6 : (k == 6) = false := by simp; omega
  have e7 : (k == 7) = false := by simp; omega
  clear hk
  by_cases hn : 0 ≤ n
  · by_cases hn2 : n ≤ 999
    · go_enter Try.func91, Try.ntmps91
      go_wp2
      go_ret
      exact ⟨ret_bool hr.out.symm, (Below.refl _ _).alloc (Nat.le_refl _) _⟩
    · go_enter Try.func91, Try.ntmps91
      go_wp2
      go_ret
      exact ⟨ret_bool hr.out.symm, (Below.refl _ _).alloc (Nat.le_refl _) _⟩
  · go_enter Try.func91, Try.ntmps91
    go_wp2
    go_ret
    exact ⟨ret_bool hr.out.symm, (Below.refl _ _).alloc (Nat.le_refl _) _⟩

theorem fieldsOk_any (k n a b : Int) (w : World) :
    Calls Try.prog 91 #[.agg #[.int .i64 k, .int .i64 n, .int .i64 a, .int .i64 b]] w fun e w' => e = .returned (.bool (fOk k n a b)) ∧ Below w.heap.size w w' := by
  by_cases hk : k < 1 ∨ 7 < k
  · exact fieldsOk_0 k n a b w hk
  · rcases (show k = 1 ∨ k = 2 ∨ k = 3 ∨ k = 4 ∨ k = 5 ∨ k = 6 ∨ k = 7 by omega) with rfl | rfl | rfl | rfl | rfl | rfl | rfl
    · exact fieldsOk_1 n a b w
    · exact fieldsOk_2 n a b w
    · exact fieldsOk_3 n a b w
    · exact fieldsOk_4 n a b w
    · exact fieldsOk_5 n a b w
    · exact fieldsOk_6 n a b w
    · exact fieldsOk_7 n a b w

/-- how many terms a node stands behind -/
def kidsI (k : Int) : Int := if k = 4 ∨ k = 6 ∨ k = 7 then 1 else if k = 5 then 2 else 0

set_option maxHeartbeats 400000 in
theorem l1Kids_any (k : Int) (w : World) : Calls Try.prog 44 #[.int .i64 k] w fun e w' => e = .returned (.int .i64 (kidsI k)) ∧ w' = w := by
  by_cases hk : k = 4 ∨ k = 6 ∨ k = 7 ∨ k = 5
  · rcases hk with rfl | rfl | rfl | rfl
    all_goals
      go_enter Try.func44, Try.ntmps44
      go_wp2
      go_ret
      exact ⟨rfl, rfl⟩
  · have hr : Hid (kidsI k = 0) := by
      show _ = _
      unfold kidsI
      rw [if_neg (by omega), if_neg (by omega)]
    have e4 : (k == 4) = false := by simp; omega
    have e5 : (k == 5) = false := by simp; omega
    have e6 : (k == 6) = false := by simp; omega
    have e7 : (k == 7) = false := by simp; omega
    clear hk
    go_enter Try.func44, Try.ntmps44
    go_wp2
    go_ret
    exact ⟨ret_int hr.out.symm, rfl⟩

def inB (n lo hi : Int) : Bool := decide (lo ≤ n) && decide (n ≤ hi)
theorem inB_true {n lo hi : Int} (h : lo ≤ n ∧ n ≤ hi) : inB n lo hi = true := by simp [inB, h.1, h.2]
theorem inB_false {n lo hi : Int} (h : ¬ (lo ≤ n ∧ n ≤ hi)) : inB n lo hi = false := by
  have : ¬ (inB n lo hi = true) := by simp [inB]; omega
  simpa using this

theorem l1In_any (n lo hi : Int) (w : World) :
    Calls Try.prog 45 #[.int .i64 n, .int .i64 lo, .int .i64 hi] w fun e w' => e = .returned (.bool (inB n lo hi)) ∧ w' = w := by
  by_cases h1 : lo ≤ n
  · by_cases h2 : n ≤ hi
    · have hr : Hid (inB n lo hi = true) := inB_true ⟨h1, h2⟩
      go_enter Try.func45, Try.ntmps45
      go_wp2
      go_ret
      exact ⟨ret_bool hr.out.symm, rfl⟩
    · have hr : Hid (inB n lo hi = false) := inB_false (by omega)
      go_enter Try.func45, Try.ntmps45
      go_wp2
      go_ret
      exact ⟨ret_bool hr.out.symm, rfl⟩
  · have hr : Hid (inB n lo hi = false) := inB_false (by omega)
    go_enter Try.func45, Try.ntmps45
    go_wp2
    go_ret
    exact ⟨ret_bool hr.out.symm, rfl⟩

end Go.Proofs.Ytpkfehbahpjaiaa
