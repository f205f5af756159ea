/-
  Single operations of the specification's ChainWith, over any frame. No condition.
-/
import Derived.Test.YtglnnocfdlachaaIWith
import Derived.Test.YtglnnocfdlachaaRegG
namespace Go.Proofs.Ytglnnocfdlachaa
open Go.RowKit
set_option linter.unusedVariables false

section
variable (ev : Operand → Value) (o : Oper) (w : World)
theorem q_call1 (f : FuncId) (he : ∀ args w, (callFunc f args).run Try.prog w = .ok (.enter f args) w) (x : Operand) (ts : Array TypeId) (h : o.op = .call { callee := .value (.func f), args := #[x], argTypes := ts }) (hf : ev (.func f) = .func (.func f) #[] #[]) : (execOp ev o).run Try.prog w = .ok (.enter f #[ev x]) w := by
  simp [execOp, h, resolve, invoke, hf, Deferred.ofValue, he]
theorem q_not (x : Operand) (b : Bool) (h : o.op = .unOp .not 4 x) (hx : ev x = .bool b) : (execOp ev o).run Try.prog w = .ok (.value (.bool (!b))) w := by
  simp [execOp, h, hx]
  go_simp
theorem q_pickF (x y z : Operand) (h : o.op = .pick x y z) (hx : ev x = .bool false) : (execOp ev o).run Try.prog w = .ok (.value (ev z)) w := by
  simp [execOp, h, hx]
  go_simp
theorem q_len (x : Operand) (a : Option Addr) (n c : Nat) (h : o.op = .call { callee := .builtin .len, args := #[x], argTypes := #[26] }) (hx : ev x = .slice a n c) : (execOp ev o).run Try.prog w = .ok (.value (.int .i64 n)) w := by
  simp [execOp, h]
  go_simp
theorem q_gtr (x y : Operand) (n : Nat) (h : o.op = .binOp .gtr 3 x y 3) (hx : ev x = .int .i64 n) (hy : ev y = .int .i64 0) : (execOp ev o).run Try.prog w = .ok (.value (.bool (decide (0 < (n : Int))))) w := by
  simp [execOp, h, hx, hy]
  go_simp
theorem q_sub (x y : Operand) (n : Nat) (h : o.op = .binOp .sub 3 x y 3) (hx : ev x = .int .i64 n) (hy : ev y = .int .i64 1) (h1 : 1 ≤ n) (hn : n ≤ 30) : (execOp ev o).run Try.prog w = .ok (.value (.int .i64 (n - 1 : Nat))) w := by
  have hi : IntKind.i64.wrap ((n : Int) - 1) = ((n - 1 : Nat) : Int) := by rw [IntKind.wrap_i64]; omega
  simp [execOp, h, hx, hy]
  go_simp
theorem q_lss (x y : Operand) (p q : Int) (h : o.op = .binOp .lss 2 x y 2) (hx : ev x = .int .i64 p) (hy : ev y = .int .i64 q) : (execOp ev o).run Try.prog w = .ok (.value (.bool (decide (p < q)))) w := by
  simp [execOp, h, hx, hy]
  go_simp
theorem q_loadI (x : Operand) (k n : Nat) (v : Int) (h : o.op = .load 2 x) (hx : ev x = .pointer (some ⟨k, n, none⟩)) (hc : w.cell? ⟨k, n, none⟩ = some (.int .i64 v)) : (execOp ev o).run Try.prog w = .ok (.value (.int .i64 v)) w := by
  simp [execOp, h, hx]
  go_simp
theorem q_fieldE (x : Operand) (k i : Nat) (h : o.op = .fieldAddr 30 x 0) (hx : ev x = .pointer (some ⟨k, i, none⟩)) : (execOp ev o).run Try.prog w = .ok (.value (.pointer (some ⟨k, i, none⟩))) w := by
  simp [execOp, h, hx]
  go_simp
theorem q_loadE (x : Operand) (k : Nat) (p q r s : Int) (h : o.op = .load 30 x) (hx : ev x = .pointer (some ⟨k, 0, none⟩)) (hb : w.heap[k]? = some (.cells #[.int .i64 p, .int .i64 q, .int .i64 r, .int .i64 s] 30 (0, 0))) : (execOp ev o).run Try.prog w = .ok (.value (.agg #[.int .i64 p, .int .i64 q, .int .i64 r, .int .i64 s])) w := by
  have e0 : w.cell? ⟨k, 0, none⟩ = some (.int .i64 p) := cellN hb
  have e1 : w.cell? ⟨k, 1, none⟩ = some (.int .i64 q) := cellN hb
  have e2 : w.cell? ⟨k, 2, none⟩ = some (.int .i64 r) := cellN hb
  have e3 : w.cell? ⟨k, 3, none⟩ = some (.int .i64 s) := cellN hb
  simp [execOp, h, hx]
  go_simp
theorem q_litE (x : Operand) (p q r s : Int) (h : o.op = .buildSlice 26 1 #[(0, x)]) (hx : ev x = .agg #[.int .i64 p, .int .i64 q, .int .i64 r, .int .i64 s]) : (execOp ev o).run Try.prog w = .ok (.value (.slice (some ⟨w.heap.size, 0, none⟩) 1 1)) (w.alloc (.cells #[.int .i64 p, .int .i64 q, .int .i64 r, .int .i64 s] 30)) := by
  simp [execOp, h, hx]
  go_simp
theorem q_idx (x y : Operand) (b off n m c : Nat) (h : o.op = .indexAddr 26 x y) (hx : ev x = .slice (some ⟨b, off, none⟩) n c) (hy : ev y = .int .i64 m) (hm : m < n) : (execOp ev o).run Try.prog w = .ok (.value (.pointer (some ⟨b, off + m * 4, none⟩))) w := by
  have hmI : (m : Int) < (n : Int) := by omega
  simp [execOp, h, hx, hy]
  go_simp
end
end Go.Proofs.Ytglnnocfdlachaa
