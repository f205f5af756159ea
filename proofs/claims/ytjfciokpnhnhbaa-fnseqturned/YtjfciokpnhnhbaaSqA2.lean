/-
  A slice of ops behind another one. No condition but that both are the call's own and short.
-/
import Derived.Test.YtjfciokpnhnhbaaSqAp
namespace Go.Proofs.Ytjfciokpnhnhbaa
open Go.RowKit
set_option linter.unusedVariables false

theorem app2E (w : World) (base bu : Nat) (ty : TypeId) (v u : Value) (A C : List Ev) (hv : OwnV w base v A) (hu : OwnV w bu u C) (hl : A.length + C.length ≤ 1000) (hb : base ≤ w.heap.size) :
    ∃ v' w', (Builtin.append_ #[24, 24] ty #[v, u]).run Try.prog w = .ok v' w' ∧ OwnV w' base v' (A ++ C) ∧ w.grownBy w' v.ownBlock := by
  obtain ⟨i0, hi, hz0, hz1, hz2⟩ := info_parts infoE
  rcases hu.cases with ⟨rfl, rfl⟩ | ⟨g, c, rfl, hOE⟩
  · exact ⟨v, w, run_append_owned_none (P := Try.prog) w base 24 ty 36 i0 4 Try.underlying24 hi v A.length (cellsL A) hv, by rw [List.append_nil]; exact hv, World.grownBy.refl _ _⟩
  · obtain ⟨v', w', hr, h2, h3, h4⟩ := run_append_own (P := Try.prog) w base 24 ty 36 i0 (.agg #[.int .i64 0, .int .i64 0, .int .i64 0, .string ⟨#[]⟩]) 4 40 Try.underlying24 hi hz0 hz1 hz2 rfl (by decide) v A.length (cellsL A) hv ⟨g, 0, none⟩ C.length c (cellsL C) (by rw [cellsL_len]) (OwnE.lies hOE).1.news (oneL _) (by unfold maxLen; omega) (by omega) hb
    refine ⟨v', w', hr, ?_, h3⟩
    unfold OwnV
    rw [cellsL_append, List.length_append]
    exact h2
theorem wpList_app2 {ops : Array Oper} {Q : Exit → Act → World → Prop} {a : Act} {w : World} {rest : List Oper} {o : Oper} (hw : Region.wanted o (yielded ops a.tmps) = true) (x y : Operand)
    (h : o.op = .call { callee := .builtin .append, args := #[x, y], argTypes := #[24, 24] }) (base bu : Nat) (v u : Value) (A C : List Ev) (hx : a.eval x = v) (hy : a.eval y = u)
    (hv : OwnV w base v A) (hu : OwnV w bu u C) (hl : A.length + C.length ≤ 1000) (hb : base ≤ w.heap.size)
    (hK : ∀ v' w', OwnV w' base v' (A ++ C) → w.grownBy w' v.ownBlock → wpList Try.prog ops Q rest (a.put o.dst v') w') : wpList Try.prog ops Q (o :: rest) a w :=
  BigFrame.wpList_want hw fun K hK' => by
    obtain ⟨v', w', hr, h1, h2⟩ := app2E w base bu o.type v u A C hv hu hl hb
    unfold Oper.wp execOp
    simp only [h, resolve, invoke, builtin, Sem.run_bind, Sem.run_pure, Result.andThen_ok, List.map_toArray, List.map_cons, List.map_nil, hx, hy, hr]
    exact hK' _ _ (hK v' w' h1 h2)
end Go.Proofs.Ytjfciokpnhnhbaa
