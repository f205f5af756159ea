/-
  The language's comparison of two elements. No condition.
-/
import Derived.Test.YtjfciokpnhnhbaaEv
import Derived.Laws.StructEq
namespace Go.Proofs.Ytjfciokpnhnhbaa
open Go.RowKit
set_option linter.unusedVariables false

theorem eqlE (x y : Ev) (w : World) : (binOp .eql 36 (.agg #[.int .i64 x.a, .int .i64 x.b, .int .i64 x.c, .string x.d]) (.agg #[.int .i64 y.a, .int .i64 y.b, .int .i64 y.c, .string y.d])).run Try.prog w = .ok (.bool (x.same y)) w := by
  have u2 := Try.underlying2
  have a2 := Try.isAgg2
  have z2 := Try.sizeOf2
  have u9 := Try.underlying9
  have a9 := Try.isAgg9
  have z9 := Try.sizeOf9
  have hS : Try.prog.underlying 36 = some (.struct (Try.prog.fieldsOf 36)) := by kernel_rfl
  have hp : Try.prog.stoodInHeld 36 = false := by kernel_rfl
  rw [run_eql_struct, show (10000 : Nat) = 9999 + 1 from rfl, run_equalIn_agg w 9999 36 _ _ hS hp]
  simp only [Program.fieldsOf, Try.underlying36]
  go_simp
  unfold Ev.same
  by_cases h1 : x.a = y.a
  · by_cases h2 : x.b = y.b
    · by_cases h3 : x.c = y.c
      · simp only [h1, h2, h3]
        cases h4 : ((fun (p q : ByteArray) => p.toList == q.toList) x.d y.d) <;> simp_all
      · simp [h1, h2, h3]
    · simp [h1, h2]
  · simp [h1]

theorem neqE (x y : Ev) (w : World) : (binOp .neq 36 (.agg #[.int .i64 x.a, .int .i64 x.b, .int .i64 x.c, .string x.d]) (.agg #[.int .i64 y.a, .int .i64 y.b, .int .i64 y.c, .string y.d])).run Try.prog w = .ok (.bool (!(x.same y))) w := by
  have u2 := Try.underlying2
  have a2 := Try.isAgg2
  have z2 := Try.sizeOf2
  have u9 := Try.underlying9
  have a9 := Try.isAgg9
  have z9 := Try.sizeOf9
  have hS : Try.prog.underlying 36 = some (.struct (Try.prog.fieldsOf 36)) := by kernel_rfl
  have hp : Try.prog.stoodInHeld 36 = false := by kernel_rfl
  rw [run_neq_struct, show (10000 : Nat) = 9999 + 1 from rfl, run_equalIn_agg w 9999 36 _ _ hS hp]
  simp only [Program.fieldsOf, Try.underlying36]
  go_simp
  unfold Ev.same
  by_cases h1 : x.a = y.a
  · by_cases h2 : x.b = y.b
    · by_cases h3 : x.c = y.c
      · simp only [h1, h2, h3]
        cases h4 : ((fun (p q : ByteArray) => p.toList == q.toList) x.d y.d) <;> simp_all
      · simp [h1, h2, h3]
    · simp [h1, h2]
  · simp [h1]

theorem guardE (op : BinOp) (a b : Operand) (x y : Ev) (w : World) : (eqGuard op 36 a b (.agg #[.int .i64 x.a, .int .i64 x.b, .int .i64 x.c, .string x.d]) (.agg #[.int .i64 y.a, .int .i64 y.b, .int .i64 y.c, .string y.d])).run Try.prog w = .ok () w :=
  run_eqGuard_agg w op 36 a b _ _ (by kernel_rfl)
theorem same_iff (x y : Ev) : x.same y = true ↔ x = y := by
  constructor
  · intro h
    unfold Ev.same at h
    simp at h
    obtain ⟨h1, h2, h3, h4⟩ := h
    cases x; cases y
    simp_all; exact ByteArray.ext (Array.ext' (by simpa [ByteArray.toList_eq] using h4))
  · rintro rfl; exact Ev.same_refl x
end Go.Proofs.Ytjfciokpnhnhbaa
