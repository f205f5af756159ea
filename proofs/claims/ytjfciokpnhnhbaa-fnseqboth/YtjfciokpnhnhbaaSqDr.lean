/-
  Drawn sequences: the reader of codes, and what it draws of ops. No condition.
-/
import Derived.Test.YtjfciokpnhnhbaaSqDs
import Derived.Test.YtjfciokpnhnhbaaDrawO
namespace Go.Proofs.Ytjfciokpnhnhbaa
open Go.RowKit
set_option linter.unusedVariables false

theorem big_any (a : Option Addr) (len cap : Nat) (w : World) : Calls Try.prog 7 #[.slice a len cap] w fun e w' => e = .returned (.bool (decide ((1048576 : Int) < (len : Int)))) ∧ w' = w := by
  go_enter Try.func7, Try.ntmps7
  go_wp2
  go_ret
  exact ⟨rfl, rfl⟩

theorem open_any (a : Option Addr) (len cap : Nat) (w : World) : Calls Try.prog 20 #[.slice a len cap] w fun e w' => e = .returned (.pointer (some ⟨w.heap.size, 0, none⟩)) ∧ Draw w a len cap w.heap.size w' := by
  go_enter Try.func20, Try.ntmps20
  go_wp2
  go_ret
  exact ⟨rfl, (Below.refl _ _).alloc (Nat.le_refl _) _, Nat.le_refl _, 0, Nat.zero_le _, heap_alloc_new w _⟩

theorem OwnV.mut {R : Nat} {w w' : World} {base : Nat} {v : Value} {L : List Ev} (h : OwnV w base v L) (hM : Mut R w w') (hR : R < base) : OwnV w' base v L :=
  h.at (fun k hk => hM.block k (World.ownsRow.lt h k hk).2 (by have := (World.ownsRow.lt h k hk).1; omega))
theorem OwnI.mut {R : Nat} {w w' : World} {base : Nat} {v : Value} {L : List Int} (h : OwnI w base v L) (hM : Mut R w w') (hR : R < base) : OwnI w' base v L := by
  have h0 := h
  obtain ⟨h1, h2⟩ := h
  refine ⟨h1, ?_⟩
  rcases h2 with h2 | ⟨g, c, cur, e, hb, hg, r⟩
  · exact .inl h2
  · exact .inr ⟨g, c, cur, e, hb, (hM.block g (lt_of_block hg) (by omega)).trans hg, r⟩

section
variable {W : World} {a : Option Addr} {len cap R : Nat} {Z : Nat → Int}
theorem below1_any (w : World) (h : Draw W a len cap R w) :
    Calls Try.prog 23 #[.pointer (some ⟨R, 0, none⟩), .int .i64 1] w fun e w' => e = .returned (.int .i64 0) ∧ w' = w := by
  go_enter Try.func23, Try.ntmps23
  go_wp2
  go_ret
  exact ⟨rfl, rfl⟩
theorem belowN_any (hU : IsU8 W a len cap Z) (n : Nat) (hn : 1 ≤ n) (hn2 : n ≤ 256) (w : World) (h : Draw W a len cap R w) :
    Calls Try.prog 23 #[.pointer (some ⟨R, 0, none⟩), .int .i64 (n : Int)] w fun e w' => ∃ y : Nat, y < n ∧ e = .returned (.int .i64 (y : Int)) ∧ Draw W a len cap R w' ∧ Mut R w w' := by
  by_cases h1 : n = 1
  · subst h1
    refine (below1_any w h).mono ?_
    rintro e w' ⟨rfl, rfl⟩
    exact ⟨0, by omega, rfl, h, Mut.refl _ _⟩
  · refine (below_any hU (n : Int) (by omega) (by omega) w h).mono ?_
    rintro e w' ⟨y, h0, h2, rfl, hD, hM⟩
    exact ⟨y.toNat, by omega, by rw [Int.toNat_of_nonneg h0], hD, hM⟩
set_option maxHeartbeats 400000 in
theorem near03_any (hU : IsU8 W a len cap Z) (w : World) (h : Draw W a len cap R w) :
    Calls Try.prog 56 #[.pointer (some ⟨R, 0, none⟩), .int .i64 0, .int .i64 3] w fun e w' => ∃ x : Int, -9223372036854775808 ≤ x ∧ x ≤ 9223372036854775807 ∧ e = .returned (.int .i64 x) ∧ Draw W a len cap R w' ∧ Mut R w w' := by
  go_enter Try.func56, Try.ntmps56
  go_wp2_with (first
    | (go_at_call 23; refine (below_any hU 8 (by omega) (by omega) _ h).mono ?_; rintro e w' ⟨x, hx0, hx1, rfl, hD, hM⟩)
    | (go_at_call 66; refine (word_any hU _ hD).mono ?_; rintro e w2 ⟨z, rfl, hD', hM'⟩))
  · go_ret
    exact ⟨_, by omega, by omega, rfl, hD, hM⟩
  · go_ret
    exact ⟨_, by omega, by omega, rfl, hD, hM⟩
  · go_ret
    exact ⟨_, (wrap64_range _).1, (wrap64_range _).2, rfl, hD', hM.trans hM'⟩

set_option maxHeartbeats 400000 in
theorem off03_any (hU : IsU8 W a len cap Z) (w : World) (h : Draw W a len cap R w) :
    Calls Try.prog 39 #[.pointer (some ⟨R, 0, none⟩), .int .i64 0, .int .i64 3] w fun e w' => ∃ x : Int, -9223372036854775808 ≤ x ∧ x ≤ 9223372036854775807 ∧ e = .returned (.int .i64 x) ∧ Draw W a len cap R w' ∧ Mut R w w' := by
  go_enter Try.func39, Try.ntmps39
  go_wp2_with (first
    | (go_at_call 38; refine (once_any hU 24 (by omega) (by omega) _ h).mono ?_; rintro e w' ⟨x, rfl, hD, hM⟩)
    | (go_at_call 56; refine (near03_any hU _ hD).mono ?_; rintro e w2 ⟨z, hz0, hz1, rfl, hD', hM'⟩))
  · refine (below_any hU 4 (by omega) (by omega) _ (hD.alloc _)).mono ?_
    rintro e w3 ⟨y, hy0, hy1, rfl, hD3, hM3⟩
    have hc := lit_cells hM3 hD.lt
    have c0 := hc 0
    have c1 := hc 1
    have c2 := hc 2
    have c3 := hc 3
    clear hc
    have hM4 : Hid (Mut R w w3) := (hM.alloc _).trans hM3
    clear hM3
    have hy : y = 0 ∨ y = 1 ∨ y = 2 ∨ y = 3 := by omega
    rcases hy with rfl | rfl | rfl | rfl <;> (go_wp2; go_ret; exact ⟨_, by omega, by omega, rfl, hD3, hM4.out⟩)
  · go_ret
    exact ⟨_, by omega, by omega, rfl, hD', hM.trans hM'⟩
end
end Go.Proofs.Ytjfciokpnhnhbaa
