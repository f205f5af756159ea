/-
  Small functions over beats: sizes, times, whether one is right by itself. No condition but that the slices read.
-/
import Derived.Test.YtnjlegphohmajaaEvV
import Derived.Test.YtnjlegphohmajaaEvOpen
import Derived.Lib.Small
namespace Go.Proofs.Ytnjlegphohmajaa
open Go.RowKit
set_option linter.unusedVariables false

def inB (lo hi x : Int) : Bool := decide (lo ≤ x) && decide (x ≤ hi)
def allB (p : Nat → Bool) (n : Nat) : Bool := (List.range n).all p
theorem allB_succ (p : Nat → Bool) (n : Nat) : allB p (n + 1) = (allB p n && p n) := by
  unfold allB
  rw [List.range_succ, List.all_append]
  simp
theorem allB_at {p : Nat → Bool} {n k : Nat} (h : allB p n = true) (hk : k < n) : p k = true := by
  unfold allB at h
  rw [List.all_eq_true] at h
  exact h k (List.mem_range.2 hk)
theorem allB_false {p : Nat → Bool} {n k : Nat} (hk : k < n) (h : p k = false) : allB p n = false := by
  have : ¬ (allB p n = true) := fun h' => by rw [allB_at h' hk] at h; cases h
  simpa using this

theorem in_any (n lo hi : Int) (b : Bool) (hb : inB lo hi n = b) (w : World) : Calls Try.prog 46 #[.int .i64 n, .int .i64 lo, .int .i64 hi] w fun e w' => e = .returned (.bool b) ∧ w' = w := by
  subst hb
  by_cases h1 : lo ≤ n
  · have hr : Hid (inB lo hi n = decide (n ≤ hi)) := by show _ = _; unfold inB; simp [h1]
    go_enter Try.func46, Try.ntmps46
    go_wp2
    go_ret
    exact ⟨ret_bool hr.out.symm, rfl⟩
  · have hr : Hid (inB lo hi n = false) := by show _ = _; unfold inB; simp [h1]
    have h1' : decide (lo ≤ n) = false := by simpa using h1
    go_enter Try.func46, Try.ntmps46
    go_wp2
    go_ret
    exact ⟨ret_bool hr.out.symm, rfl⟩

theorem time_any (n : Int) (b : Bool) (hb : inB 0 1000000 n = b) (w : World) : Calls Try.prog 47 #[.int .i64 n] w fun e w' => e = .returned (.bool b) ∧ w' = w := by
  subst hb
  by_cases h1 : 0 ≤ n
  · have hr : Hid (inB 0 1000000 n = decide (n ≤ 1000000)) := by show _ = _; unfold inB; simp [h1]
    go_enter Try.func47, Try.ntmps47
    go_wp2
    go_ret
    exact ⟨ret_bool hr.out.symm, rfl⟩
  · have hr : Hid (inB 0 1000000 n = false) := by show _ = _; unfold inB; simp [h1]
    have h1' : decide (0 ≤ n) = false := by simpa using h1
    go_enter Try.func47, Try.ntmps47
    go_wp2
    go_ret
    exact ⟨ret_bool hr.out.symm, rfl⟩

/-- a beat is right by itself -/
def Ev.fine (x : Ev) : Bool := inB 1 1000000 x.a && (inB 1 1000000 x.b && (inB 0 1000000 x.c && decide ((x.d.size : Int) ≤ 20)))

set_option maxHeartbeats 1000000 in
theorem beatOk_any (x : Ev) (hx : x.d.size ≤ 9223372036854775807) (b : Bool) (hb : x.fine = b) (w : World) :
    Calls Try.prog 45 #[.agg #[.int .i64 x.a, .int .i64 x.b, .int .i64 x.c, .string x.d]] w fun e w' => e = .returned (.bool b) ∧ Below w.heap.size w w' := by
  have HB : Hid (∀ o, Below w.heap.size w (w.alloc o)) := fun o => (Below.refl _ _).alloc (Nat.le_refl _) _
  subst hb
  by_cases h0 : 1 ≤ x.a
  · skip
    by_cases h1 : x.a ≤ 1000000
    · skip
      by_cases h2 : 1 ≤ x.b
      · skip
        by_cases h3 : x.b ≤ 1000000
        · skip
          have ha : inB 1 1000000 x.a = true := by unfold inB; simp [h0, h1]
          have hb : inB 1 1000000 x.b = true := by unfold inB; simp [h2, h3]
          cases hc : inB 0 1000000 x.c with
          | true =>
            have hr : Hid (x.fine = decide ((x.d.size : Int) ≤ 20)) := by show _ = _; unfold Ev.fine; rw [ha, hb, hc]; simp
            clear ha hb
            go_enter Try.func45, Try.ntmps45
            go_wp2_with (first | (go_at_call 47; refine (time_any _ true hc _).mono ?_; rintro e w1 ⟨rfl, rfl⟩))
            go_ret
            exact ⟨ret_bool hr.out.symm, HB.out _⟩
          | false =>
            have hr : Hid (x.fine = false) := by show _ = _; unfold Ev.fine; rw [hc]; simp
            clear ha hb
            go_enter Try.func45, Try.ntmps45
            go_wp2_with (first | (go_at_call 47; refine (time_any _ false hc _).mono ?_; rintro e w1 ⟨rfl, rfl⟩))
            go_ret
            exact ⟨ret_bool hr.out.symm, HB.out _⟩
        · have hr : Hid (x.fine = false) := by
            show _ = _
            have : inB 1 1000000 x.b = false := by unfold inB; simp [h3]
            unfold Ev.fine; rw [this]; simp
          have h3' : decide (x.b ≤ 1000000) = false := by simpa using h3
          clear h3
          go_enter Try.func45, Try.ntmps45
          go_wp2
          go_ret
          exact ⟨ret_bool hr.out.symm, HB.out _⟩
      · have hr : Hid (x.fine = false) := by
          show _ = _
          have : inB 1 1000000 x.b = false := by unfold inB; simp [h2]
          unfold Ev.fine; rw [this]; simp
        have h2' : decide (1 ≤ x.b) = false := by simpa using h2
        clear h2
        go_enter Try.func45, Try.ntmps45
        go_wp2
        go_ret
        exact ⟨ret_bool hr.out.symm, HB.out _⟩
    · have hr : Hid (x.fine = false) := by
        show _ = _
        have : inB 1 1000000 x.a = false := by unfold inB; simp [h1]
        unfold Ev.fine; rw [this]; simp
      have h1' : decide (x.a ≤ 1000000) = false := by simpa using h1
      clear h1
      go_enter Try.func45, Try.ntmps45
      go_wp2
      go_ret
      exact ⟨ret_bool hr.out.symm, HB.out _⟩
  · have hr : Hid (x.fine = false) := by
      show _ = _
      have : inB 1 1000000 x.a = false := by unfold inB; simp [h0]
      unfold Ev.fine; rw [this]; simp
    have h0' : decide (1 ≤ x.a) = false := by simpa using h0
    clear h0
    go_enter Try.func45, Try.ntmps45
    go_wp2
    go_ret
    exact ⟨ret_bool hr.out.symm, HB.out _⟩
end Go.Proofs.Ytnjlegphohmajaa
