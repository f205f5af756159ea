/-
  The reader of codes: numbers just outside a range. No condition.
-/
import Derived.Test.YtpjeccnhgoegkaaSqDr
namespace Go.Proofs.Ytpjeccnhgoegkaa
open Go.RowKit
set_option linter.unusedVariables false

section
variable {W : World} {a : Option Addr} {len cap R : Nat} {Z : Nat → Int}
set_option maxHeartbeats 400000 in
theorem near040_any (hU : IsU8 W a len cap Z) (w : World) (h : Draw W a len cap R w) :
    Calls Try.prog 39 #[.pointer (some ⟨R, 0, none⟩), .int .i64 0, .int .i64 40] w fun e w' => ∃ x : Int, -9223372036854775808 ≤ x ∧ x ≤ 9223372036854775807 ∧ e = .returned (.int .i64 x) ∧ Draw W a len cap R w' ∧ Mut R w w' := by
  go_enter Try.func39, Try.ntmps39
  go_wp2_with (first
    | (go_at_call 26; refine (below_any hU 8 (by omega) (by omega) _ h).mono ?_; rintro e w' ⟨x, hx0, hx1, rfl, hD, hM⟩)
    | (go_at_call 49; refine (word_any hU _ hD).mono ?_; rintro e w2 ⟨z, rfl, hD', hM'⟩))
  · go_ret
    exact ⟨_, by omega, by omega, rfl, hD, hM⟩
  · go_ret
    exact ⟨_, by omega, by omega, rfl, hD, hM⟩
  · go_ret
    exact ⟨_, (wrap64_range _).1, (wrap64_range _).2, rfl, hD', hM.trans hM'⟩

set_option maxHeartbeats 400000 in
theorem off040_any (hU : IsU8 W a len cap Z) (w : World) (h : Draw W a len cap R w) :
    Calls Try.prog 25 #[.pointer (some ⟨R, 0, none⟩), .int .i64 0, .int .i64 40] w fun e w' => ∃ x : Int, -9223372036854775808 ≤ x ∧ x ≤ 9223372036854775807 ∧ e = .returned (.int .i64 x) ∧ Draw W a len cap R w' ∧ Mut R w w' := by
  go_enter Try.func25, Try.ntmps25
  go_wp2_with (first
    | (go_at_call 24; refine (once_any hU 24 (by omega) (by omega) _ h).mono ?_; rintro e w' ⟨x, rfl, hD, hM⟩)
    | (go_at_call 39; refine (near040_any hU _ hD).mono ?_; rintro e w2 ⟨z, hz0, hz1, rfl, hD', hM'⟩))
  · refine (below_any hU 4 (by omega) (by omega) _ (hD.alloc _)).mono ?_
    rintro e w3 ⟨y, hy0, hy1, rfl, hD3, hM3⟩
    have hc := lit_cells hM3 hD.lt
    have c0 := hc 0
    have c1 := hc 1
    have c2 := hc 2
    have c3 := hc 3
    clear hc
    have hM4 : Hid (Mut R w w3) := (hM.alloc _).trans hM3
    clear hM3
    have hy : y = 0 ∨ y = 1 ∨ y = 2 ∨ y = 3 := by omega
    rcases hy with rfl | rfl | rfl | rfl <;> (go_wp2; go_ret; exact ⟨_, by omega, by omega, rfl, hD3, hM4.out⟩)
  · go_ret
    exact ⟨_, by omega, by omega, rfl, hD', hM.trans hM'⟩

set_option maxHeartbeats 400000 in
theorem near12_any (hU : IsU8 W a len cap Z) (w : World) (h : Draw W a len cap R w) :
    Calls Try.prog 39 #[.pointer (some ⟨R, 0, none⟩), .int .i64 1, .int .i64 2] w fun e w' => ∃ x : Int, -9223372036854775808 ≤ x ∧ x ≤ 9223372036854775807 ∧ e = .returned (.int .i64 x) ∧ Draw W a len cap R w' ∧ Mut R w w' := by
  go_enter Try.func39, Try.ntmps39
  go_wp2_with (first
    | (go_at_call 26; refine (below_any hU 8 (by omega) (by omega) _ h).mono ?_; rintro e w' ⟨x, hx0, hx1, rfl, hD, hM⟩)
    | (go_at_call 49; refine (word_any hU _ hD).mono ?_; rintro e w2 ⟨z, rfl, hD', hM'⟩))
  · go_ret
    exact ⟨_, by omega, by omega, rfl, hD, hM⟩
  · go_ret
    exact ⟨_, by omega, by omega, rfl, hD, hM⟩
  · go_ret
    exact ⟨_, (wrap64_range _).1, (wrap64_range _).2, rfl, hD', hM.trans hM'⟩

set_option maxHeartbeats 400000 in
theorem off12_any (hU : IsU8 W a len cap Z) (w : World) (h : Draw W a len cap R w) :
    Calls Try.prog 25 #[.pointer (some ⟨R, 0, none⟩), .int .i64 1, .int .i64 2] w fun e w' => ∃ x : Int, -9223372036854775808 ≤ x ∧ x ≤ 9223372036854775807 ∧ e = .returned (.int .i64 x) ∧ Draw W a len cap R w' ∧ Mut R w w' := by
  go_enter Try.func25, Try.ntmps25
  go_wp2_with (first
    | (go_at_call 24; refine (once_any hU 24 (by omega) (by omega) _ h).mono ?_; rintro e w' ⟨x, rfl, hD, hM⟩)
    | (go_at_call 39; refine (near12_any hU _ hD).mono ?_; rintro e w2 ⟨z, hz0, hz1, rfl, hD', hM'⟩))
  · refine (below_any hU 4 (by omega) (by omega) _ (hD.alloc _)).mono ?_
    rintro e w3 ⟨y, hy0, hy1, rfl, hD3, hM3⟩
    have hc := lit_cells hM3 hD.lt
    have c0 := hc 0
    have c1 := hc 1
    have c2 := hc 2
    have c3 := hc 3
    clear hc
    have hM4 : Hid (Mut R w w3) := (hM.alloc _).trans hM3
    clear hM3
    have hy : y = 0 ∨ y = 1 ∨ y = 2 ∨ y = 3 := by omega
    rcases hy with rfl | rfl | rfl | rfl <;> (go_wp2; go_ret; exact ⟨_, by omega, by omega, rfl, hD3, hM4.out⟩)
  · go_ret
    exact ⟨_, by omega, by omega, rfl, hD', hM.trans hM'⟩

set_option maxHeartbeats 400000 in
theorem near190_any (hU : IsU8 W a len cap Z) (w : World) (h : Draw W a len cap R w) :
    Calls Try.prog 39 #[.pointer (some ⟨R, 0, none⟩), .int .i64 1, .int .i64 90] w fun e w' => ∃ x : Int, -9223372036854775808 ≤ x ∧ x ≤ 9223372036854775807 ∧ e = .returned (.int .i64 x) ∧ Draw W a len cap R w' ∧ Mut R w w' := by
  go_enter Try.func39, Try.ntmps39
  go_wp2_with (first
    | (go_at_call 26; refine (below_any hU 8 (by omega) (by omega) _ h).mono ?_; rintro e w' ⟨x, hx0, hx1, rfl, hD, hM⟩)
    | (go_at_call 49; refine (word_any hU _ hD).mono ?_; rintro e w2 ⟨z, rfl, hD', hM'⟩))
  · go_ret
    exact ⟨_, by omega, by omega, rfl, hD, hM⟩
  · go_ret
    exact ⟨_, by omega, by omega, rfl, hD, hM⟩
  · go_ret
    exact ⟨_, (wrap64_range _).1, (wrap64_range _).2, rfl, hD', hM.trans hM'⟩

set_option maxHeartbeats 400000 in
theorem off190_any (hU : IsU8 W a len cap Z) (w : World) (h : Draw W a len cap R w) :
    Calls Try.prog 25 #[.pointer (some ⟨R, 0, none⟩), .int .i64 1, .int .i64 90] w fun e w' => ∃ x : Int, -9223372036854775808 ≤ x ∧ x ≤ 9223372036854775807 ∧ e = .returned (.int .i64 x) ∧ Draw W a len cap R w' ∧ Mut R w w' := by
  go_enter Try.func25, Try.ntmps25
  go_wp2_with (first
    | (go_at_call 24; refine (once_any hU 24 (by omega) (by omega) _ h).mono ?_; rintro e w' ⟨x, rfl, hD, hM⟩)
    | (go_at_call 39; refine (near190_any hU _ hD).mono ?_; rintro e w2 ⟨z, hz0, hz1, rfl, hD', hM'⟩))
  · refine (below_any hU 4 (by omega) (by omega) _ (hD.alloc _)).mono ?_
    rintro e w3 ⟨y, hy0, hy1, rfl, hD3, hM3⟩
    have hc := lit_cells hM3 hD.lt
    have c0 := hc 0
    have c1 := hc 1
    have c2 := hc 2
    have c3 := hc 3
    clear hc
    have hM4 : Hid (Mut R w w3) := (hM.alloc _).trans hM3
    clear hM3
    have hy : y = 0 ∨ y = 1 ∨ y = 2 ∨ y = 3 := by omega
    rcases hy with rfl | rfl | rfl | rfl <;> (go_wp2; go_ret; exact ⟨_, by omega, by omega, rfl, hD3, hM4.out⟩)
  · go_ret
    exact ⟨_, by omega, by omega, rfl, hD', hM.trans hM'⟩

end
end Go.Proofs.Ytpjeccnhgoegkaa
