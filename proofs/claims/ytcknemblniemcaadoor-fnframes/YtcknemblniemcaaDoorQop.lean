/-
  Single operations, over any frame. No condition.
-/
import Derived.Test.YtcknemblniemcaaDoorReg2
namespace Go.Proofs.YtcknemblniemcaaDoor
open Go.RowKit
set_option linter.unusedVariables false

theorem q_move (ev : Operand → Value) (o : Oper) (w : World) (x : Operand) (h : o.op = .move x) : (execOp ev o).run Tryd.prog w = .ok (.value (ev x)) w := by simp [execOp, h]
theorem q_assign (ev : Operand → Value) (o : Oper) (w : World) (x : Operand) (h : o.op = .assign x) : (execOp ev o).run Tryd.prog w = .ok (.value (ev x)) w := by simp [execOp, h]
theorem q_call1 (ev : Operand → Value) (o : Oper) (w : World) (f : FuncId) (he : ∀ args w, (callFunc f args).run Tryd.prog w = .ok (.enter f args) w) (x : Operand) (ts : Array TypeId) (h : o.op = .call { callee := .value (.func f), args := #[x], argTypes := ts }) (hf : ev (.func f) = .func (.func f) #[] #[]) : (execOp ev o).run Tryd.prog w = .ok (.enter f #[ev x]) w := by
  simp [execOp, h, resolve, invoke, hf, Deferred.ofValue, he]
theorem q_call2 (ev : Operand → Value) (o : Oper) (w : World) (f : FuncId) (he : ∀ args w, (callFunc f args).run Tryd.prog w = .ok (.enter f args) w) (x y : Operand) (ts : Array TypeId) (h : o.op = .call { callee := .value (.func f), args := #[x, y], argTypes := ts }) (hf : ev (.func f) = .func (.func f) #[] #[]) : (execOp ev o).run Tryd.prog w = .ok (.enter f #[ev x, ev y]) w := by
  simp [execOp, h, resolve, invoke, hf, Deferred.ofValue, he]
theorem q_call3 (ev : Operand → Value) (o : Oper) (w : World) (f : FuncId) (he : ∀ args w, (callFunc f args).run Tryd.prog w = .ok (.enter f args) w) (x y z : Operand) (ts : Array TypeId) (h : o.op = .call { callee := .value (.func f), args := #[x, y, z], argTypes := ts }) (hf : ev (.func f) = .func (.func f) #[] #[]) : (execOp ev o).run Tryd.prog w = .ok (.enter f #[ev x, ev y, ev z]) w := by
  simp [execOp, h, resolve, invoke, hf, Deferred.ofValue, he]
theorem q_ext0 (ev : Operand → Value) (o : Oper) (w : World) (x : Operand) (u v : Value) (h : o.op = .extract x 0) (hx : ev x = .tuple #[u, v]) : (execOp ev o).run Tryd.prog w = .ok (.value u) w := by
  simp [execOp, h, hx]
  go_simp
theorem q_ext1 (ev : Operand → Value) (o : Oper) (w : World) (x : Operand) (u v : Value) (h : o.op = .extract x 1) (hx : ev x = .tuple #[u, v]) : (execOp ev o).run Tryd.prog w = .ok (.value v) w := by
  simp [execOp, h, hx]
  go_simp
theorem q_not (ev : Operand → Value) (o : Oper) (w : World) (x : Operand) (b : Bool) (h : o.op = .unOp .not 4 x) (hx : ev x = .bool b) : (execOp ev o).run Tryd.prog w = .ok (.value (.bool (!b))) w := by
  simp [execOp, h, hx]
  go_simp
theorem q_pick (ev : Operand → Value) (o : Oper) (w : World) (x y z : Operand) (h : o.op = .pick x y z) (hx : ev x = .bool true) : (execOp ev o).run Tryd.prog w = .ok (.value (ev y)) w := by
  simp [execOp, h, hx]
  go_simp
theorem q_pickF (ev : Operand → Value) (o : Oper) (w : World) (x y z : Operand) (h : o.op = .pick x y z) (hx : ev x = .bool false) : (execOp ev o).run Tryd.prog w = .ok (.value (ev z)) w := by
  simp [execOp, h, hx]
  go_simp
theorem q_shr (ev : Operand → Value) (o : Oper) (w : World) (x y : Operand) (n : Nat) (h : o.op = .binOp .shr 3 x y 32) (hx : ev x = .int .i64 n) (k : Nat) (hk : k < 64) (hy : ev y = .int .u64 k) : (execOp ev o).run Tryd.prog w = .ok (.value (.int .i64 ((n : Int) / 2 ^ k))) w := by
  simp [execOp, h, hx, hy]
  go_simp
theorem q_toU8 (ev : Operand → Value) (o : Oper) (w : World) (x : Operand) (n : Int) (h : o.op = .convert 3 5 x) (hx : ev x = .int .i64 n) : (execOp ev o).run Tryd.prog w = .ok (.value (.int .u8 (n % 256))) w := by
  simp [execOp, h, hx]
  go_simp
  exact IntKind.wrap_u8 n

/-- what holds of the values of a region: of one G, of the others which they are -/
def VF (vl : List Value) (m : Nat) (G : Value → World → Prop) (j : Nat) (v : Value) (w : World) : Prop := if j = m then G v w else v = vl.getD j undef
theorem VF.below {vl : List Value} {m : Nat} {G : Value → World → Prop} (hG : ∀ v w w', G v w → Below w.heap.size w w' → G v w') {j : Nat} {v : Value} {w w' : World} (h : VF vl m G j v w) (hB : Below w.heap.size w w') : VF vl m G j v w' := by
  unfold VF at h ⊢
  split at h
  · rename_i q
    rw [if_pos q]
    exact hG _ _ _ h hB
  · rename_i q
    rw [if_neg q]
    exact h
theorem VF.eq {vl : List Value} {m : Nat} {G : Value → World → Prop} {j : Nat} {v : Value} {w : World} (h : VF vl m G j v w) (h1 : j ≠ m) : v = vl.getD j undef := by
  unfold VF at h
  rw [if_neg h1] at h
  exact h
theorem VF.mk {vl : List Value} {m : Nat} {G : Value → World → Prop} {j : Nat} {v : Value} {w : World} (h1 : j ≠ m) (h : v = vl.getD j undef) : VF vl m G j v w := by
  unfold VF
  rw [if_neg h1]
  exact h
theorem VF.get {vl : List Value} {m : Nat} {G : Value → World → Prop} {v : Value} {w : World} (h : VF vl m G m v w) : G v w := by
  unfold VF at h
  rw [if_pos rfl] at h
  exact h
theorem VF.put {vl : List Value} {m : Nat} {G : Value → World → Prop} {v : Value} {w : World} (h : G v w) : VF vl m G m v w := by
  unfold VF
  rw [if_pos rfl]
  exact h
end Go.Proofs.YtcknemblniemcaaDoor
