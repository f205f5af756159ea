/-
  What an event of the program answers: who tells it, of whom, and of which kind it is. No condition.
-/
import Derived.Test.YtglnnocfdlachaaIEvs
namespace Go.Proofs.Ytglnnocfdlachaa
open Go.RowKit
set_option linter.unusedVariables false

theorem author_any (p q : Int) (w : World) : Calls Try.prog 63 #[.agg #[.int .i64 p, .int .i64 q]] w fun e w' => e = .returned (.int .i64 p) ∧ Below w.heap.size w w' := by
  go_enter Try.func63, Try.ntmps63
  go_wp2
  go_ret
  exact ⟨rfl, (Below.refl _ _).alloc (Nat.le_refl _) _⟩
theorem who_any (p q : Int) (w : World) : Calls Try.prog 51 #[.agg #[.int .i64 p, .int .i64 q]] w fun e w' => e = .returned (.int .i64 q) ∧ Below w.heap.size w w' := by
  go_enter Try.func51, Try.ntmps51
  go_wp2
  go_ret
  exact ⟨rfl, (Below.refl _ _).alloc (Nat.le_refl _) _⟩

section
variable (v : Value) (w : World)
theorem asDrop : (Instr.typeAssert (.iface 91 v) 82 91 true).run Try.prog w = .ok (.tuple #[v, .bool true]) w := by
  simp [Instr.typeAssert, run_underlying Try.underlying91, go_sem, Result.andThen]
theorem asAdd : (Instr.typeAssert (.iface 87 v) 82 87 true).run Try.prog w = .ok (.tuple #[v, .bool true]) w := by
  simp [Instr.typeAssert, run_underlying Try.underlying87, go_sem, Result.andThen]
theorem asAdmin : (Instr.typeAssert (.iface 88 v) 82 88 true).run Try.prog w = .ok (.tuple #[v, .bool true]) w := by
  simp [Instr.typeAssert, run_underlying Try.underlying88, go_sem, Result.andThen]
theorem noDrop1 : (Instr.typeAssert (.iface 87 v) 82 91 true).run Try.prog w = .ok (.tuple #[.agg #[.int .i64 0, .int .i64 0], .bool false]) w := by
  simp [Instr.typeAssert, run_underlying Try.underlying91, go_sem, Result.andThen]
theorem noDrop3 : (Instr.typeAssert (.iface 88 v) 82 91 true).run Try.prog w = .ok (.tuple #[.agg #[.int .i64 0, .int .i64 0], .bool false]) w := by
  simp [Instr.typeAssert, run_underlying Try.underlying91, go_sem, Result.andThen]
theorem noAdd2 : (Instr.typeAssert (.iface 91 v) 82 87 true).run Try.prog w = .ok (.tuple #[.agg #[.int .i64 0, .int .i64 0], .bool false]) w := by
  simp [Instr.typeAssert, run_underlying Try.underlying87, go_sem, Result.andThen]
theorem noAdd3 : (Instr.typeAssert (.iface 88 v) 82 87 true).run Try.prog w = .ok (.tuple #[.agg #[.int .i64 0, .int .i64 0], .bool false]) w := by
  simp [Instr.typeAssert, run_underlying Try.underlying87, go_sem, Result.andThen]
theorem noAdmin2 : (Instr.typeAssert (.iface 91 v) 82 88 true).run Try.prog w = .ok (.tuple #[.agg #[.int .i64 0, .int .i64 0], .bool false]) w := by
  simp [Instr.typeAssert, run_underlying Try.underlying88, go_sem, Result.andThen]
end
end Go.Proofs.Ytglnnocfdlachaa
