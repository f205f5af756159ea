/-
  NodeOk, the program's and the specification's, answer the same plain test. No condition but that the ups read and lengths.
-/
import Derived.Test.YtlibipbpaigmdaaGreatDoorIds2
namespace Go.Proofs.YtlibipbpaigmdaaGreatDoor
open Go.RowKit
set_option linter.unusedVariables false

/-- a node's value -/
def nodeV (a s k : Int) (key text : ByteArray) (u : Option Addr) (len cap : Nat) : Value := .agg #[.int .i64 a, .int .i64 s, .int .i64 k, .string key, .string text, .slice u len cap]
def inB (lo hi x : Int) : Bool := decide (lo ≤ x) && decide (x ≤ hi)
def opB (k : Int) (key text : ByteArray) : Bool := if k = 1 ∨ k = 2 then key.toList.isEmpty && !text.toList.isEmpty else if k = 3 then !key.toList.isEmpty else false
/-- a right node -/
def nodeB (a s k : Int) (key text : ByteArray) (S : Nat → ByteArray) (len : Nat) : Bool := inB 1 9 a && inB 1 1000000 s && plainB key && plainB text && opB k key text && idsB S len

theorem in_any (n lo hi : Int) (b : Bool) (hb : inB lo hi n = b) (w : World) : Calls Tryz.prog 108 #[.int .i64 n, .int .i64 lo, .int .i64 hi] w fun e w' => e = .returned (.bool b) ∧ w' = w := by
  subst hb
  by_cases h1 : lo ≤ n
  · have hr : Hid (inB lo hi n = decide (n ≤ hi)) := by show _ = _; unfold inB; simp [h1]
    go_enter Tryz.func108, Tryz.ntmps108
    go_wp2
    go_ret
    exact ⟨ret_bool hr.out.symm, rfl⟩
  · have hr : Hid (inB lo hi n = false) := by show _ = _; unfold inB; simp [h1]
    have h1' : decide (lo ≤ n) = false := by simpa using h1
    go_enter Tryz.func108, Tryz.ntmps108
    go_wp2
    go_ret
    exact ⟨ret_bool hr.out.symm, rfl⟩
theorem author_any (n : Int) (b : Bool) (hb : inB 1 9 n = b) (w : World) : Calls Tryz.prog 126 #[.int .i64 n] w fun e w' => e = .returned (.bool b) ∧ w' = w := by
  subst hb
  by_cases h1 : 1 ≤ n
  · have hr : Hid (inB 1 9 n = decide (n ≤ 9)) := by show _ = _; unfold inB; simp [h1]
    go_enter Tryz.func126, Tryz.ntmps126
    go_wp2
    go_ret
    exact ⟨ret_bool hr.out.symm, rfl⟩
  · have hr : Hid (inB 1 9 n = false) := by show _ = _; unfold inB; simp [h1]
    have h1' : decide (1 ≤ n) = false := by simpa using h1
    go_enter Tryz.func126, Tryz.ntmps126
    go_wp2
    go_ret
    exact ⟨ret_bool hr.out.symm, rfl⟩
theorem seq_any (n : Int) (b : Bool) (hb : inB 1 1000000 n = b) (w : World) : Calls Tryz.prog 127 #[.int .i64 n] w fun e w' => e = .returned (.bool b) ∧ w' = w := by
  subst hb
  by_cases h1 : 1 ≤ n
  · have hr : Hid (inB 1 1000000 n = decide (n ≤ 1000000)) := by show _ = _; unfold inB; simp [h1]
    go_enter Tryz.func127, Tryz.ntmps127
    go_wp2
    go_ret
    exact ⟨ret_bool hr.out.symm, rfl⟩
  · have hr : Hid (inB 1 1000000 n = false) := by show _ = _; unfold inB; simp [h1]
    have h1' : decide (1 ≤ n) = false := by simpa using h1
    go_enter Tryz.func127, Tryz.ntmps127
    go_wp2
    go_ret
    exact ⟨ret_bool hr.out.symm, rfl⟩
theorem signs_b (s : ByteArray) (hs : s.size ≤ 9223372036854775807) (b : Bool) (hb : plainB s = b) (w : World) : Calls Tryz.prog 128 #[.string s] w fun e w' => e = .returned (.bool b) ∧ w' = w := by
  rw [← hb]; exact signs_any s hs w
theorem plain_b (s : ByteArray) (hs : s.size ≤ 9223372036854775807) (b : Bool) (hb : plainB s = b) (w : World) : Calls Tryz.prog 164 #[.string s] w fun e w' => e = .returned (.bool b) ∧ w' = w := by
  rw [← hb]; exact plain_any s hs w
theorem specIds_b (a : Option Addr) (len cap : Nat) (S : Nat → ByteArray) (w : World) (h : IsStrs w a len cap S) (hS : ∀ i, i < len → (S i).size ≤ 9223372036854775807) (b : Bool) (hb : idsB S len = b) :
    Calls Tryz.prog 165 #[.slice a len cap, .int .i64 5] w fun e w' => e = .returned (.bool b) ∧ Below w.heap.size w w' := by
  rw [← hb]; exact specIds_any a len cap S w h hS
theorem implIds_b (a : Option Addr) (len cap : Nat) (S : Nat → ByteArray) (w : World) (h : IsStrs w a len cap S) (hS : ∀ i, i < len → (S i).size ≤ 9223372036854775807) (b : Bool) (hb : idsB S len = b) :
    Calls Tryz.prog 130 #[.slice a len cap] w fun e w' => e = .returned (.bool b) ∧ Below w.heap.size w w' := by
  rw [← hb]; exact implIds_any a len cap S w h hS

/-- the tests of the kind, at the end of both functions -/
theorem op_12 {k : Int} {key text : ByteArray} (hk : k = 1 ∨ k = 2) : opB k key text = (key.toList.isEmpty && !text.toList.isEmpty) := by unfold opB; rw [if_pos hk]
theorem op_3 {k : Int} {key text : ByteArray} (hk : k = 3) : opB k key text = (!key.toList.isEmpty) := by unfold opB; rw [if_neg (by omega), if_pos hk]
theorem op_no {k : Int} {key text : ByteArray} (h12 : ¬ (k = 1 ∨ k = 2)) (h3 : ¬ k = 3) : opB k key text = false := by unfold opB; rw [if_neg h12, if_neg h3]

set_option maxHeartbeats 1000000 in
theorem operation_any (a s k : Int) (key text : ByteArray) (u : Option Addr) (len cap : Nat) (w : World) :
    Calls Tryz.prog 129 #[.agg #[.int .i64 a, .int .i64 s, .int .i64 k, .string key, .string text, .slice u len cap]] w fun e w' => e = .returned (.bool (opB k key text)) ∧ Below w.heap.size w w' := by
  have he := empty_list
  by_cases h1 : k = 1
  · subst h1
    have hr : Hid (_) := op_12 (key := key) (text := text) (Or.inl (rfl : (1 : Int) = 1))
    cases hkey : key.toList.isEmpty with
    | true =>
      rw [hkey, Bool.true_and] at hr
      go_enter Tryz.func129, Tryz.ntmps129
      go_wp2
      go_ret
      exact ⟨ret_bool hr.out.symm, (Below.refl _ _).alloc (Nat.le_refl _) _⟩
    | false =>
      rw [hkey, Bool.false_and] at hr
      go_enter Tryz.func129, Tryz.ntmps129
      go_wp2
      go_ret
      exact ⟨ret_bool hr.out.symm, (Below.refl _ _).alloc (Nat.le_refl _) _⟩
  by_cases h2 : k = 2
  · subst h2
    have hr : Hid (_) := op_12 (key := key) (text := text) (Or.inr (rfl : (2 : Int) = 2))
    cases hkey : key.toList.isEmpty with
    | true =>
      rw [hkey, Bool.true_and] at hr
      go_enter Tryz.func129, Tryz.ntmps129
      go_wp2
      go_ret
      exact ⟨ret_bool hr.out.symm, (Below.refl _ _).alloc (Nat.le_refl _) _⟩
    | false =>
      rw [hkey, Bool.false_and] at hr
      go_enter Tryz.func129, Tryz.ntmps129
      go_wp2
      go_ret
      exact ⟨ret_bool hr.out.symm, (Below.refl _ _).alloc (Nat.le_refl _) _⟩
  by_cases h3 : k = 3
  · subst h3
    have hr : Hid (_) := op_3 (key := key) (text := text) (rfl : (3 : Int) = 3)
    go_enter Tryz.func129, Tryz.ntmps129
    go_wp2
    go_ret
    exact ⟨ret_bool hr.out.symm, (Below.refl _ _).alloc (Nat.le_refl _) _⟩
  · have hr : Hid (opB k key text = false) := op_no (by omega) h3
    have e1 : (k == 1) = false := by simpa using h1
    have e2 : (k == 2) = false := by simpa using h2
    have e3 : (k == 3) = false := by simpa using h3
    go_enter Tryz.func129, Tryz.ntmps129
    go_wp2
    go_ret
    exact ⟨ret_bool hr.out.symm, (Below.refl _ _).alloc (Nat.le_refl _) _⟩
theorem operation_b (a s k : Int) (key text : ByteArray) (u : Option Addr) (len cap : Nat) (b : Bool) (hb : opB k key text = b) (w : World) :
    Calls Tryz.prog 129 #[.agg #[.int .i64 a, .int .i64 s, .int .i64 k, .string key, .string text, .slice u len cap]] w fun e w' => e = .returned (.bool b) ∧ Below w.heap.size w w' := by
  rw [← hb]; exact operation_any a s k key text u len cap w

end Go.Proofs.YtlibipbpaigmdaaGreatDoor
