/-
  The law FnSizes answers true at every code, where the table 'sizes' holds its numbers and the code reads as bytes.
-/
import Derived.Test.YtgjoppllhegkoaaDoorDraw
namespace Go.Proofs.YtgjoppllhegkoaaDoor
open Go.RowKit
set_option linter.unusedVariables false

theorem big_any (a : Option Addr) (len cap : Nat) (w : World) : Calls Tryd.prog 6 #[.slice a len cap] w fun e w' => e = .returned (.bool (decide ((1048576 : Int) < (len : Int)))) ∧ w' = w := by
  go_enter Tryd.func6, Tryd.ntmps6
  go_wp2
  go_ret
  exact ⟨rfl, rfl⟩

theorem open_any (a : Option Addr) (len cap : Nat) (w : World) : Calls Tryd.prog 21 #[.slice a len cap] w fun e w' => e = .returned (.pointer (some ⟨w.heap.size, 0, none⟩)) ∧ Draw w a len cap w.heap.size w' := by
  go_enter Tryd.func21, Tryd.ntmps21
  go_wp2
  go_ret
  exact ⟨rfl, (Below.refl _ _).alloc (Nat.le_refl _) _, Nat.le_refl _, 0, Nat.zero_le _, heap_alloc_new w _⟩

section
variable {W : World} {a : Option Addr} {len cap : Nat} {Z : Nat → Int}

set_option maxHeartbeats 400000 in
theorem drawSize_any (hU : IsU8 W a len cap Z) :
    Calls Tryd.prog 14 #[.slice a len cap] W fun e w' => ∃ x : Int, e = .returned (.int .i64 x) ∧ Below W.heap.size W w' := by
  go_enter Tryd.func14, Tryd.ntmps14
  go_wp2_with (first
    | (go_at_call 21; refine (open_any _ _ _ _).mono ?_; rintro e w1 ⟨rfl, hD⟩)
    | (go_at_call 27; refine (once_any hU 2 (by omega) (by omega) _ hD).mono ?_; rintro e w2 ⟨x, rfl, hD2, hM2⟩)
    | (go_at_call 29; refine (off_any hU _ hD2).mono ?_; rintro e w3 ⟨z, rfl, hD3, hM3⟩))
  · refine (below_any hU 11 (by omega) (by omega) _ (hD2.alloc _)).mono ?_
    rintro e w3 ⟨y, hy0, hy1, rfl, hD3, hM3⟩
    have hc := lit_cells hM3 hD2.lt
    have c0 := hc 0
    have c1 := hc 1
    have c2 := hc 2
    have c3 := hc 3
    have c4 := hc 4
    have c5 := hc 5
    have c6 := hc 6
    have c7 := hc 7
    have c8 := hc 8
    have c9 := hc 9
    have c10 := hc 10
    clear hc hM3
    have hy : y = 0 ∨ y = 1 ∨ y = 2 ∨ y = 3 ∨ y = 4 ∨ y = 5 ∨ y = 6 ∨ y = 7 ∨ y = 8 ∨ y = 9 ∨ y = 10 := by omega
    have hB : Hid (Below W.heap.size W w3) := hD3.bel
    rcases hy with rfl | rfl | rfl | rfl | rfl | rfl | rfl | rfl | rfl | rfl | rfl <;> (go_wp2; go_ret; exact ⟨_, rfl, hB.out⟩)
  · go_ret
    exact ⟨_, rfl, hD3.bel⟩
end

theorem Sizes.below {w w' : World} (h : Sizes w) (hB : Below w.heap.size w w') : Sizes w' := fun k hk =>
  (hB.cell (p := ⟨0, k, none⟩) (cell_lt (h k hk))).trans (h k hk)

theorem sizeOf_facts {n : Int} (h0 : 0 ≤ n) (h1 : n ≤ 200) : n < sizeOf n ∧ 16 ≤ sizeOf n ∧ (sizeOf n = 16 ∨ sizeOf n ≤ 2 * n + 2) ∧ (n = 0 ∨ sizeOf (n - 1) ≤ sizeOf n) := by
  unfold sizeOf
  refine ⟨?_, ?_, ?_, ?_⟩ <;> split <;> (try split) <;> (try split) <;> (try split) <;> (try split) <;> (try split) <;> (try split) <;> (try split) <;> (try split) <;> (try split) <;> omega

set_option maxHeartbeats 400000 in
theorem sizes_walk {a : Option Addr} {len cap : Nat} {Z : Nat → Int} (w : World) (hU : IsU8 w a len cap Z) (hS : Sizes w) :
    Calls Tryd.prog 4 #[.slice a len cap] w fun e w' => e = .returned (.bool true) ∧ Below w.heap.size w w' := by
  by_cases hbig : (1048576 : Int) < (len : Int)
  · go_enter Tryd.func4, Tryd.ntmps4
    go_wp2_with (go_at_call 6; refine (big_any _ _ _ _).mono ?_; rintro e w1 ⟨rfl, rfl⟩; rw [decide_eq_true hbig])
    go_ret
    exact ⟨rfl, Below.refl _ _⟩
  · go_enter Tryd.func4, Tryd.ntmps4
    go_wp2_with (first
      | (go_at_call 6; refine (big_any _ _ _ _).mono ?_; rintro e w1 ⟨rfl, rfl⟩; rw [decide_eq_false hbig])
      | (go_at_call 14; refine (drawSize_any hU).mono ?_; rintro e w1 ⟨n, rfl, hB⟩)
      | fail)
    have hS1 := hS.below hB
    have hi := fun w h => implSize_any n w h
    have hsp := fun w => specSize_any n w
    by_cases hin : 0 ≤ n ∧ n ≤ 200
    · obtain ⟨f1, f2, f3, f4⟩ := sizeOf_facts hin.1 hin.2
      have hi1 := fun w h => implSize_any (n - 1) w h
      generalize sizeOf n = s at f1 f2 f3 f4 hi hsp
      generalize sizeOf (n - 1) = t at f4 hi1
      have g0 : ¬ s < 0 := by omega
      obtain ⟨hn0, hn1⟩ := hin
      by_cases e1 : s = 16
      · by_cases e2 : n = 0
        · subst e1; subst e2
          go_wp2_with (first
            | (go_at_call 11; refine (hi _ hS1).mono ?_; rintro e w2 ⟨rfl, rfl⟩)
            | (go_at_call 15; refine (hsp _).mono ?_; rintro e w2 ⟨rfl, rfl⟩))
          go_ret
          exact ⟨rfl, hB⟩
        · have f5 : t ≤ s := by omega
          subst e1
          have e3 : (n == 0) = false := by simpa using e2
          go_wp2_with (go_at_call 11; refine (hi _ hS1).mono ?_; rintro e w2 ⟨rfl, rfl⟩)
          refine (hsp _).mono ?_
          rintro e w2 ⟨rfl, rfl⟩
          go_wp2_with (go_at_call 11; refine (hi1 _ hS1).mono ?_; rintro e w2 ⟨rfl, rfl⟩)
          go_ret
          exact ⟨rfl, hB⟩
      · have e1' : (s == 16) = false := by simpa using e1
        have f6 : s ≤ 2 * n + 2 := by omega
        by_cases e2 : n = 0
        · omega
        · have f5 : t ≤ s := by omega
          have e3 : (n == 0) = false := by simpa using e2
          clear f3 f4 e1 e2
          go_wp2_with (go_at_call 11; refine (hi _ hS1).mono ?_; rintro e w2 ⟨rfl, rfl⟩)
          refine (hsp _).mono ?_
          rintro e w2 ⟨rfl, rfl⟩
          go_wp2_with (go_at_call 11; refine (hi1 _ hS1).mono ?_; rintro e w2 ⟨rfl, rfl⟩)
          go_ret
          exact ⟨rfl, hB⟩
    · have hz : sizeOf n = -1 := by unfold sizeOf; rw [if_pos (by omega)]
      rw [hz] at hi hsp
      go_wp2_with (first
        | (go_at_call 11; refine (hi _ hS1).mono ?_; rintro e w2 ⟨rfl, rfl⟩)
        | (go_at_call 15; refine (hsp _).mono ?_; rintro e w2 ⟨rfl, rfl⟩))
      go_ret
      exact ⟨rfl, hB⟩
end Go.Proofs.YtgjoppllhegkoaaDoor
