/-
  Events of a chain: which stands ahead of which, the program's comparison and the specification's, and whether one is right by itself. No condition.
-/
import Derived.Test.YtglnnocfdlachaaEv
import Derived.Deep.RegionHeld3
import Derived.Lib.Small
namespace Go.Proofs.Ytglnnocfdlachaa
open Go.RowKit
set_option linter.unusedVariables false

def inB (lo hi x : Int) : Bool := decide (lo ≤ x) && decide (x ≤ hi)
def allB (p : Nat → Bool) (n : Nat) : Bool := (List.range n).all p
theorem allB_succ (p : Nat → Bool) (n : Nat) : allB p (n + 1) = (allB p n && p n) := by
  unfold allB
  rw [List.range_succ, List.all_append]
  simp
theorem allB_false {p : Nat → Bool} {n k : Nat} (hk : k < n) (h : p k = false) : allB p n = false := by
  have : ¬ (allB p n = true) := by
    unfold allB
    rw [List.all_eq_true]
    intro h'
    have := h' k (List.mem_range.2 hk)
    rw [h] at this
    cases this
  simpa using this
theorem allB_at {p : Nat → Bool} {n k : Nat} (h : allB p n = true) (hk : k < n) : p k = true := by
  unfold allB at h
  rw [List.all_eq_true] at h
  exact h k (List.mem_range.2 hk)

theorem in_any (n lo hi : Int) (b : Bool) (hb : inB lo hi n = b) (w : World) : Calls Try.prog 38 #[.int .i64 n, .int .i64 lo, .int .i64 hi] w fun e w' => e = .returned (.bool b) ∧ w' = w := by
  subst hb
  by_cases h1 : lo ≤ n
  · have hr : Hid (inB lo hi n = decide (n ≤ hi)) := by show _ = _; unfold inB; simp [h1]
    go_enter Try.func38, Try.ntmps38
    go_wp2
    go_ret
    exact ⟨ret_bool hr.out.symm, rfl⟩
  · have hr : Hid (inB lo hi n = false) := by show _ = _; unfold inB; simp [h1]
    have h1' : decide (lo ≤ n) = false := by simpa using h1
    go_enter Try.func38, Try.ntmps38
    go_wp2
    go_ret
    exact ⟨ret_bool hr.out.symm, rfl⟩

theorem member_any (n : Int) (b : Bool) (hb : inB 1 5 n = b) (w : World) : Calls Try.prog 41 #[.int .i64 n] w fun e w' => e = .returned (.bool b) ∧ w' = w := by
  subst hb
  by_cases h1 : 1 ≤ n
  · have hr : Hid (inB 1 5 n = decide (n ≤ 5)) := by show _ = _; unfold inB; simp [h1]
    go_enter Try.func41, Try.ntmps41
    go_wp2
    go_ret
    exact ⟨ret_bool hr.out.symm, rfl⟩
  · have hr : Hid (inB 1 5 n = false) := by show _ = _; unfold inB; simp [h1]
    have h1' : decide (1 ≤ n) = false := by simpa using h1
    go_enter Try.func41, Try.ntmps41
    go_wp2
    go_ret
    exact ⟨ret_bool hr.out.symm, rfl⟩

/-- x stands ahead of y -/
def ahead (x y : Ev) : Bool :=
  if x.a = y.a then (if x.b = y.b then (if x.c = y.c then decide (x.d < y.d) else decide (x.c < y.c)) else decide (x.b < y.b)) else decide (x.a < y.a)
/-- the program's comparison -/
def cmpE (x y : Ev) : Int :=
  if x.a = y.a then (if x.b = y.b then (if x.c = y.c then Lib.compareInt x.d y.d else Lib.compareInt x.c y.c) else Lib.compareInt x.b y.b) else Lib.compareInt x.a y.a
theorem cmpI_lt (p q : Int) : decide (Lib.compareInt p q < 0) = decide (p < q) := by
  unfold Lib.compareInt
  by_cases h1 : p < q
  · simp [h1]
  · by_cases h2 : q < p <;> simp [h1, h2]
theorem cmpE_lt (x y : Ev) : decide (cmpE x y < 0) = ahead x y := by
  unfold cmpE ahead
  by_cases h1 : x.a = y.a
  · by_cases h2 : x.b = y.b
    · by_cases h3 : x.c = y.c
      · simp only [h1, h2, h3, if_true, cmpI_lt]
      · simp only [h1, h2, h3, if_true, if_false, cmpI_lt]
    · simp only [h1, h2, if_true, if_false, cmpI_lt]
  · simp only [h1, if_false, cmpI_lt]

theorem ahead_any (x y : Ev) (b : Bool) (hb : ahead x y = b) (w : World) :
    Calls Try.prog 39 #[.agg #[.int .i64 x.a, .int .i64 x.b, .int .i64 x.c, .int .i64 x.d], .agg #[.int .i64 y.a, .int .i64 y.b, .int .i64 y.c, .int .i64 y.d]] w fun e w' => e = .returned (.bool b) ∧ Below w.heap.size w w' := by
  have HB : Hid (∀ o o', Below w.heap.size w ((w.alloc o).alloc o')) := fun o o' => ((Below.refl _ _).alloc (Nat.le_refl _) _).alloc (by simp) _
  subst hb
  by_cases h1 : x.a = y.a
  · have e1 : (x.a != y.a) = false := by simp [h1]
    by_cases h2 : x.b = y.b
    · have e2 : (x.b != y.b) = false := by simp [h2]
      by_cases h3 : x.c = y.c
      · have e3 : (x.c != y.c) = false := by simp [h3]
        have hr : Hid (ahead x y = decide (x.d < y.d)) := by show _ = _; unfold ahead; rw [if_pos h1, if_pos h2, if_pos h3]
        clear h1 h2 h3
        go_enter Try.func39, Try.ntmps39
        go_wp2
        go_ret
        exact ⟨ret_bool hr.out.symm, HB.out _ _⟩
      · have e3 : (x.c != y.c) = true := by simp [h3]
        have hr : Hid (ahead x y = decide (x.c < y.c)) := by show _ = _; unfold ahead; rw [if_pos h1, if_pos h2, if_neg h3]
        clear h1 h2 h3
        go_enter Try.func39, Try.ntmps39
        go_wp2
        go_ret
        exact ⟨ret_bool hr.out.symm, HB.out _ _⟩
    · have e2 : (x.b != y.b) = true := by simp [h2]
      have hr : Hid (ahead x y = decide (x.b < y.b)) := by show _ = _; unfold ahead; rw [if_pos h1, if_neg h2]
      clear h1 h2
      go_enter Try.func39, Try.ntmps39
      go_wp2
      go_ret
      exact ⟨ret_bool hr.out.symm, HB.out _ _⟩
  · have e1 : (x.a != y.a) = true := by simp [h1]
    have hr : Hid (ahead x y = decide (x.a < y.a)) := by show _ = _; unfold ahead; rw [if_neg h1]
    clear h1
    go_enter Try.func39, Try.ntmps39
    go_wp2
    go_ret
    exact ⟨ret_bool hr.out.symm, HB.out _ _⟩

theorem nan_any (n : Int) (w : World) : Calls Try.prog 67 #[.int .i64 n] w fun e w' => e = .returned (.bool false) ∧ w' = w := by
  have e1 : (n != n) = false := by simp
  go_enter Try.func67, Try.ntmps67
  go_wp2
  go_ret
  exact ⟨rfl, rfl⟩

theorem compare_any (p q : Int) (w : World) : Calls Try.prog 56 #[.int .i64 p, .int .i64 q] w fun e w' => e = .returned (.int .i64 (Lib.compareInt p q)) ∧ w' = w := by
  by_cases h1 : p < q
  · have hr : Hid (Lib.compareInt p q = -1) := by show _ = _; unfold Lib.compareInt; rw [if_pos h1]
    go_enter Try.func56, Try.ntmps56
    go_wp2_with (go_at_call 67; refine (nan_any _ _).mono ?_; rintro e w1 ⟨rfl, rfl⟩)
    go_ret
    exact ⟨ret_int hr.out.symm, rfl⟩
  · have h1' : decide (p < q) = false := by simpa using h1
    by_cases h2 : q < p
    · have hr : Hid (Lib.compareInt p q = 1) := by show _ = _; unfold Lib.compareInt; rw [if_neg h1, if_pos h2]
      clear h1
      go_enter Try.func56, Try.ntmps56
      go_wp2_with (go_at_call 67; refine (nan_any _ _).mono ?_; rintro e w1 ⟨rfl, rfl⟩)
      go_ret
      exact ⟨ret_int hr.out.symm, rfl⟩
    · have hr : Hid (Lib.compareInt p q = 0) := by show _ = _; unfold Lib.compareInt; rw [if_neg h1, if_neg h2]
      have h2' : decide (q < p) = false := by simpa using h2
      clear h1 h2
      go_enter Try.func56, Try.ntmps56
      go_wp2_with (go_at_call 67; refine (nan_any _ _).mono ?_; rintro e w1 ⟨rfl, rfl⟩)
      go_ret
      exact ⟨ret_int hr.out.symm, rfl⟩

def orI (r0 r1 r2 r3 : Int) : Int := if r0 = 0 then (if r1 = 0 then (if r2 = 0 then r3 else r2) else r1) else r0

theorem or_any (B : Nat) (r0 r1 r2 r3 : Int) (w : World) (c0 : w.cell? ⟨B, 0, none⟩ = some (.int .i64 r0)) (c1 : w.cell? ⟨B, 1, none⟩ = some (.int .i64 r1)) (c2 : w.cell? ⟨B, 2, none⟩ = some (.int .i64 r2)) (c3 : w.cell? ⟨B, 3, none⟩ = some (.int .i64 r3)) :
    Calls Try.prog 55 #[.slice (some ⟨B, 0, none⟩) 4 4] w fun e w' => e = .returned (.int .i64 (orI r0 r1 r2 r3)) ∧ w' = w := by
  by_cases h0 : r0 = 0
  · have e0 : (r0 != 0) = false := by simp [h0]
    by_cases h1 : r1 = 0
    · have e1 : (r1 != 0) = false := by simp [h1]
      by_cases h2 : r2 = 0
      · have e2 : (r2 != 0) = false := by simp [h2]
        have hr : Hid (orI r0 r1 r2 r3 = r3) := by show _ = _; unfold orI; rw [if_pos h0, if_pos h1, if_pos h2]
        by_cases h3 : r3 = 0
        · have e3 : (r3 != 0) = false := by simp [h3]
          have H3 : Hid (r3 = 0) := h3
          clear h0 h1 h2 h3
          go_enter Try.func55, Try.ntmps55
          go_wp2
          refine wp_loop_rounds 5 ?_
          rw [rounds_succ]; go_wp2
          rw [rounds_succ]; go_wp2
          rw [rounds_succ]; go_wp2
          rw [rounds_succ]; go_wp2
          rw [rounds_succ]; go_wp2
          go_ret
          exact ⟨ret_int (by rw [hr.out, H3.out]), rfl⟩
        · have e3 : (r3 != 0) = true := by simp [h3]
          clear h0 h1 h2 h3
          go_enter Try.func55, Try.ntmps55
          go_wp2
          refine wp_loop_rounds 5 ?_
          rw [rounds_succ]; go_wp2
          rw [rounds_succ]; go_wp2
          rw [rounds_succ]; go_wp2
          rw [rounds_succ]; go_wp2
          go_ret
          exact ⟨ret_int hr.out.symm, rfl⟩
      · have e2 : (r2 != 0) = true := by simp [h2]
        have hr : Hid (orI r0 r1 r2 r3 = r2) := by show _ = _; unfold orI; rw [if_pos h0, if_pos h1, if_neg h2]
        clear h0 h1 h2
        go_enter Try.func55, Try.ntmps55
        go_wp2
        refine wp_loop_rounds 5 ?_
        rw [rounds_succ]; go_wp2
        rw [rounds_succ]; go_wp2
        rw [rounds_succ]; go_wp2
        go_ret
        exact ⟨ret_int hr.out.symm, rfl⟩
    · have e1 : (r1 != 0) = true := by simp [h1]
      have hr : Hid (orI r0 r1 r2 r3 = r1) := by show _ = _; unfold orI; rw [if_pos h0, if_neg h1]
      clear h0 h1
      go_enter Try.func55, Try.ntmps55
      go_wp2
      refine wp_loop_rounds 5 ?_
      rw [rounds_succ]; go_wp2
      rw [rounds_succ]; go_wp2
      go_ret
      exact ⟨ret_int hr.out.symm, rfl⟩
  · have e0 : (r0 != 0) = true := by simp [h0]
    have hr : Hid (orI r0 r1 r2 r3 = r0) := by show _ = _; unfold orI; rw [if_neg h0]
    clear h0
    go_enter Try.func55, Try.ntmps55
    go_wp2
    refine wp_loop_rounds 5 ?_
    rw [rounds_succ]; go_wp2
    go_ret
    exact ⟨ret_int hr.out.symm, rfl⟩

theorem cmpI_zero (p q : Int) : Lib.compareInt p q = 0 ↔ p = q := by
  unfold Lib.compareInt
  by_cases h1 : p < q
  · simp [h1]; omega
  · by_cases h2 : q < p
    · simp [h1, h2]; omega
    · simp [h1, h2]; omega
theorem cmpE_or (x y : Ev) : orI (Lib.compareInt x.a y.a) (Lib.compareInt x.b y.b) (Lib.compareInt x.c y.c) (Lib.compareInt x.d y.d) = cmpE x y := by
  unfold orI cmpE
  simp only [cmpI_zero]

set_option maxHeartbeats 2000000 in
theorem cmpEv_any (x y : Ev) (w : World) :
    Calls Try.prog 37 #[.agg #[.int .i64 x.a, .int .i64 x.b, .int .i64 x.c, .int .i64 x.d], .agg #[.int .i64 y.a, .int .i64 y.b, .int .i64 y.c, .int .i64 y.d]] w fun e w' => e = .returned (.int .i64 (cmpE x y)) ∧ Below w.heap.size w w' := by
  have HB : Hid (∀ o o', Below w.heap.size w ((w.alloc o).alloc o')) := fun o o' => ((Below.refl _ _).alloc (Nat.le_refl _) _).alloc (by simp) _
  have HR : Hid (_) := cmpE_or x y
  go_enter Try.func37, Try.ntmps37
  go_wp2
  obtain ⟨W, hW⟩ : ∃ W, W = (w.alloc (.cells #[.int .i64 x.a, .int .i64 x.b, .int .i64 x.c, .int .i64 x.d] 30)).alloc (.cells #[.int .i64 y.a, .int .i64 y.b, .int .i64 y.c, .int .i64 y.d] 30) := ⟨_, rfl⟩
  rw [← hW]
  have hBW : Below w.heap.size w W := by rw [hW]; exact HB.out _ _
  have g1 : W.heap[w.heap.size]? = some (.cells #[.int .i64 x.a, .int .i64 x.b, .int .i64 x.c, .int .i64 x.d] 30) := by
    rw [hW, Below.heap_alloc _ _ _ (by simp)]
    exact heap_alloc_new _ _
  have g2 : W.heap[w.heap.size + 1]? = some (.cells #[.int .i64 y.a, .int .i64 y.b, .int .i64 y.c, .int .i64 y.d] 30) := by
    rw [hW]
    have := heap_alloc_new (w.alloc (.cells #[.int .i64 x.a, .int .i64 x.b, .int .i64 x.c, .int .i64 x.d] 30)) (.cells #[.int .i64 y.a, .int .i64 y.b, .int .i64 y.c, .int .i64 y.d] 30)
    simpa using this
  clear hW
  have a0 : W.cell? ⟨w.heap.size, 0, none⟩ = some (.int .i64 x.a) := cellN g1
  have a1 : W.cell? ⟨w.heap.size, 1, none⟩ = some (.int .i64 x.b) := cellN g1
  have a2 : W.cell? ⟨w.heap.size, 2, none⟩ = some (.int .i64 x.c) := cellN g1
  have a3 : W.cell? ⟨w.heap.size, 3, none⟩ = some (.int .i64 x.d) := cellN g1
  have b0 : W.cell? ⟨w.heap.size + 1, 0, none⟩ = some (.int .i64 y.a) := cellN g2
  have b1 : W.cell? ⟨w.heap.size + 1, 1, none⟩ = some (.int .i64 y.b) := cellN g2
  have b2 : W.cell? ⟨w.heap.size + 1, 2, none⟩ = some (.int .i64 y.c) := cellN g2
  have b3 : W.cell? ⟨w.heap.size + 1, 3, none⟩ = some (.int .i64 y.d) := cellN g2
  have HBW : Hid (Below w.heap.size w W) := hBW
  clear g1 g2 hBW
  go_region_held3 (fun w' => w'.cell? ⟨w.heap.size, 0, none⟩ = some (.int .i64 x.a) ∧ w'.cell? ⟨w.heap.size, 1, none⟩ = some (.int .i64 x.b) ∧ w'.cell? ⟨w.heap.size, 2, none⟩ = some (.int .i64 x.c) ∧ w'.cell? ⟨w.heap.size, 3, none⟩ = some (.int .i64 x.d) ∧ w'.cell? ⟨w.heap.size + 1, 0, none⟩ = some (.int .i64 y.a) ∧ w'.cell? ⟨w.heap.size + 1, 1, none⟩ = some (.int .i64 y.b) ∧ w'.cell? ⟨w.heap.size + 1, 2, none⟩ = some (.int .i64 y.c) ∧ w'.cell? ⟨w.heap.size + 1, 3, none⟩ = some (.int .i64 y.d)) (go_keep) ((first | (go_at_call 56; refine (compare_any _ _ _).mono ?_; rintro e w1 ⟨rfl, rfl⟩) | (go_at_call 55; refine (or_any _ (Lib.compareInt x.a y.a) (Lib.compareInt x.b y.b) (Lib.compareInt x.c y.c) (Lib.compareInt x.d y.d) _ (cellN (heap_alloc_new _ _)) (cellN (heap_alloc_new _ _)) (cellN (heap_alloc_new _ _)) (cellN (heap_alloc_new _ _))).mono ?_; rintro e w1 ⟨rfl, rfl⟩)))
  go_wp2
  go_ret
  exact ⟨ret_int HR.out, (HBW.out.alloc HBW.out.size _).drew⟩

/-- an event is right by itself -/
def Ev.fine (x : Ev) : Bool := inB 1 20 x.a && (inB 1 5 x.b && (inB 1 3 x.c && inB 1 5 x.d))

set_option maxHeartbeats 1000000 in
theorem eventOk_any (x : Ev) (b : Bool) (hb : x.fine = b) (w : World) :
    Calls Try.prog 24 #[.agg #[.int .i64 x.a, .int .i64 x.b, .int .i64 x.c, .int .i64 x.d]] w fun e w' => e = .returned (.bool b) ∧ Below w.heap.size w w' := by
  have HB : Hid (∀ o, Below w.heap.size w (w.alloc o)) := fun o => (Below.refl _ _).alloc (Nat.le_refl _) _
  subst hb
  by_cases h1 : 1 ≤ x.a
  · by_cases h2 : x.a ≤ 20
    · by_cases h3 : 1 ≤ x.c
      · by_cases h4 : x.c ≤ 3
        · have ha : inB 1 20 x.a = true := by unfold inB; simp [h1, h2]
          have hc : inB 1 3 x.c = true := by unfold inB; simp [h3, h4]
          cases h5 : inB 1 5 x.b with
          | true =>
            have hr : Hid (x.fine = inB 1 5 x.d) := by show _ = _; unfold Ev.fine; rw [ha, hc, h5]; simp
            clear ha hc
            go_enter Try.func24, Try.ntmps24
            go_wp2_with (first | (go_at_call_of 41 (x.b); refine (member_any _ true h5 _).mono ?_; rintro e w1 ⟨rfl, rfl⟩) | (go_at_call_of 41 (x.d); refine (member_any _ _ rfl _).mono ?_; rintro e w1 ⟨rfl, rfl⟩))
            go_ret
            exact ⟨ret_bool hr.out.symm, HB.out _⟩
          | false =>
            have hr : Hid (x.fine = false) := by show _ = _; unfold Ev.fine; rw [h5]; simp
            clear ha hc
            go_enter Try.func24, Try.ntmps24
            go_wp2_with (first | (go_at_call_of 41 (x.b); refine (member_any _ false h5 _).mono ?_; rintro e w1 ⟨rfl, rfl⟩))
            go_ret
            exact ⟨ret_bool hr.out.symm, HB.out _⟩
        · have hr : Hid (x.fine = false) := by
            show _ = _
            have : inB 1 3 x.c = false := by unfold inB; simp [h4]
            unfold Ev.fine; rw [this]; simp
          have h4' : decide (x.c ≤ 3) = false := by simpa using h4
          clear h4
          go_enter Try.func24, Try.ntmps24
          go_wp2
          go_ret
          exact ⟨ret_bool hr.out.symm, HB.out _⟩
      · have hr : Hid (x.fine = false) := by
          show _ = _
          have : inB 1 3 x.c = false := by unfold inB; simp [h3]
          unfold Ev.fine; rw [this]; simp
        have h3' : decide (1 ≤ x.c) = false := by simpa using h3
        clear h3
        go_enter Try.func24, Try.ntmps24
        go_wp2
        go_ret
        exact ⟨ret_bool hr.out.symm, HB.out _⟩
    · have hr : Hid (x.fine = false) := by
        show _ = _
        have : inB 1 20 x.a = false := by unfold inB; simp [h2]
        unfold Ev.fine; rw [this]; simp
      have h2' : decide (x.a ≤ 20) = false := by simpa using h2
      clear h2
      go_enter Try.func24, Try.ntmps24
      go_wp2
      go_ret
      exact ⟨ret_bool hr.out.symm, HB.out _⟩
  · have hr : Hid (x.fine = false) := by
      show _ = _
      have : inB 1 20 x.a = false := by unfold inB; simp [h1]
      unfold Ev.fine; rw [this]; simp
    have h1' : decide (1 ≤ x.a) = false := by simpa using h1
    clear h1
    go_enter Try.func24, Try.ntmps24
    go_wp2
    go_ret
    exact ⟨ret_bool hr.out.symm, HB.out _⟩
end Go.Proofs.Ytglnnocfdlachaa
