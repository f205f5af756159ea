/-
  Single operations of the regions that draw a place and a sign. No condition.
-/
import Derived.Test.YtpjeccnhgoegkaaSqDd
namespace Go.Proofs.Ytpjeccnhgoegkaa
open Go.RowKit
set_option linter.unusedVariables false

theorem results_4t {P : Program} {fn : Func} {u v x y : Tmp} (h : fn.results = #[.tmp u, .tmp v, .tmp x, .tmp y]) (tmps : Array Value) (w : World) :
    (results fn tmps).run P w = .ok (.tuple #[tmps.getD u undef, tmps.getD v undef, tmps.getD x undef, tmps.getD y undef]) w := by
  simp only [results, h]
  simp
theorem q_call3E (ev : Operand → Value) (o : Oper) (w : World) (f : FuncId) (he : ∀ args w, (callFunc f args).run Try.prog w = .ok (.enter f args) w) (x y z : Operand) (ts : Array TypeId) (h : o.op = .call { callee := .value (.func f), args := #[x, y, z], argTypes := ts }) (hf : ev (.func f) = .func (.func f) #[] #[]) : (execOp ev o).run Try.prog w = .ok (.enter f #[ev x, ev y, ev z]) w := by
  simp [execOp, h, resolve, invoke, hf, Deferred.ofValue, he]
theorem q_loadSE (ev : Operand → Value) (o : Oper) (w : World) (x : Operand) (p k : Nat) (c : ByteArray) (h : o.op = .load 9 x) (hx : ev x = .pointer (some ⟨p, k, none⟩)) (hc : w.cell? ⟨p, k, none⟩ = some (.string c)) : (execOp ev o).run Try.prog w = .ok (.value (.string c)) w := by
  simp [execOp, h, hx]
  go_simp
theorem q_idxSE (ev : Operand → Value) (o : Oper) (w : World) (x y : Operand) (b n c k : Nat) (h : o.op = .indexAddr 65 x y) (hx : ev x = .slice (some ⟨b, 0, none⟩) n c) (hy : ev y = .int .i64 k) (hm : k < n) : (execOp ev o).run Try.prog w = .ok (.value (.pointer (some ⟨b, k, none⟩))) w := by
  have hmI : (k : Int) < (n : Int) := by omega
  simp [execOp, h, hx, hy]
  go_simp
theorem q_lit4S (ev : Operand → Value) (o : Oper) (w : World) (a b c d : Operand) (p q r s : ByteArray) (h : o.op = .buildSlice 65 4 #[(0, a), (1, b), (2, c), (3, d)]) (ha : ev a = .string p) (hb : ev b = .string q) (hc : ev c = .string r) (hd : ev d = .string s) : (execOp ev o).run Try.prog w = .ok (.value (.slice (some ⟨w.heap.size, 0, none⟩) 4 4)) (w.alloc (.cells #[.string p, .string q, .string r, .string s] 9)) := by
  simp [execOp, h, ha, hb, hc, hd]
  go_simp
theorem q_lit3S (ev : Operand → Value) (o : Oper) (w : World) (a b c : Operand) (p q r : ByteArray) (h : o.op = .buildSlice 65 3 #[(0, a), (1, b), (2, c)]) (ha : ev a = .string p) (hb : ev b = .string q) (hc : ev c = .string r) : (execOp ev o).run Try.prog w = .ok (.value (.slice (some ⟨w.heap.size, 0, none⟩) 3 3)) (w.alloc (.cells #[.string p, .string q, .string r] 9)) := by
  simp [execOp, h, ha, hb, hc]
  go_simp
theorem q_lenI (ev : Operand → Value) (o : Oper) (w : World) (x : Operand) (b : Option Addr) (n c : Nat) (h : o.op = .call { callee := .builtin .len, args := #[x], argTypes := #[38] }) (hx : ev x = .slice b n c) : (execOp ev o).run Try.prog w = .ok (.value (.int .i64 n)) w := by
  simp [execOp, h, resolve, invoke, builtin, hx]
  go_simp
theorem q_addE (ev : Operand → Value) (o : Oper) (w : World) (x y : Operand) (i j : Int) (h : o.op = .binOp .add 3 x y 3) (hx : ev x = .int .i64 i) (hy : ev y = .int .i64 j) : (execOp ev o).run Try.prog w = .ok (.value (.int .i64 (IntKind.i64.wrap (i + j)))) w := by
  simp [execOp, h, hx, hy]
  go_simp
theorem Mut.cellOf {R : Nat} {w w' : World} (hM : Mut R w w') {g i : Nat} {v : Value} (h : w.cell? ⟨g, i, none⟩ = some v) (hg : g ≠ R) : w'.cell? ⟨g, i, none⟩ = some v := by
  have e := hM.block g (cell_lt h) hg
  unfold World.cell? at h ⊢
  rw [e]
  exact h
/-- short texts in a slice; one of them -/
def SL (R n : Nat) (w : World) (v : Value) : Prop := ∃ g, v = .slice (some ⟨g, 0, none⟩) n n ∧ g ≠ R ∧ ∀ i, i < n → ∃ sg : ByteArray, sg.size ≤ 8 ∧ w.cell? ⟨g, i, none⟩ = some (.string sg)
def SA (R : Nat) (w : World) (v : Value) : Prop := ∃ g i, ∃ sg : ByteArray, v = .pointer (some ⟨g, i, none⟩) ∧ g ≠ R ∧ sg.size ≤ 8 ∧ w.cell? ⟨g, i, none⟩ = some (.string sg)
theorem SL.mut {R n : Nat} {w w' : World} {v : Value} (h : SL R n w v) (hM : Mut R w w') : SL R n w' v := by
  obtain ⟨g, e, hg, hc⟩ := h
  refine ⟨g, e, hg, fun i hi => ?_⟩
  obtain ⟨sg, h8, hc'⟩ := hc i hi
  exact ⟨sg, h8, hM.cellOf hc' hg⟩
theorem SA.mut {R : Nat} {w w' : World} {v : Value} (h : SA R w v) (hM : Mut R w w') : SA R w' v := by
  obtain ⟨g, i, sg, e, hg, h8, hc⟩ := h
  exact ⟨g, i, sg, e, hg, h8, hM.cellOf hc hg⟩
/-- what the operations of DrawSeqInserted's first answer give -/
def IaF (R : Nat) (V : Value) : Nat → (Nat → Value) → World → Prop
  | 0, f, _ => f 14 = V
  | 1, f, _ => f 15 = .pointer (some ⟨R, 0, none⟩)
  | 2, f, _ => ∃ z : Int, f 16 = .int .i64 z
  | 3, f, _ => f 17 = .pointer (some ⟨R, 0, none⟩)
  | 4, f, _ => ∃ z : Int, f 18 = .int .i64 z
  | 5, f, w => SL R 4 w (f 19)
  | 6, f, _ => f 20 = .pointer (some ⟨R, 0, none⟩)
  | 7, f, _ => ∃ i : Nat, i < 4 ∧ f 21 = .int .i64 (i : Int)
  | 8, f, w => SA R w (f 22)
  | 9, f, _ => ∃ sg : ByteArray, sg.size ≤ 8 ∧ f 23 = .string sg
  | 10, f, _ => f 2 = V
  | 11, f, _ => ∃ z : Int, f 3 = .int .i64 z
  | 12, f, _ => ∃ z : Int, f 4 = .int .i64 z
  | 13, f, _ => ∃ sg : ByteArray, sg.size ≤ 8 ∧ f 5 = .string sg
  | _, _, _ => True
theorem IaF.mut {R : Nat} {V : Value} {j : Nat} {f : Nat → Value} {w w' : World} (h : IaF R V j f w) (hM : Mut R w w') : IaF R V j f w' := by
  match j, h with
  | 0, h => exact h
  | 1, h => exact h
  | 2, h => exact h
  | 3, h => exact h
  | 4, h => exact h
  | 5, h => exact SL.mut h hM
  | 6, h => exact h
  | 7, h => exact h
  | 8, h => exact SA.mut h hM
  | 9, h => exact h
  | 10, h => exact h
  | 11, h => exact h
  | 12, h => exact h
  | 13, h => exact h
  | (m + 14), _ => exact trivial
/-- ... and of its second one -/
def IbF (R : Nat) (V : Value) : Nat → (Nat → Value) → World → Prop
  | 0, f, _ => f 24 = V
  | 1, f, _ => f 25 = .pointer (some ⟨R, 0, none⟩)
  | 2, f, _ => ∃ z : Int, f 26 = .int .i64 z
  | 3, f, _ => ∃ z : Int, f 27 = .int .i64 z
  | 4, f, _ => f 28 = .pointer (some ⟨R, 0, none⟩)
  | 5, f, _ => f 29 = V
  | 6, f, _ => ∃ a : Option Addr, ∃ n c : Nat, n ≤ 40 ∧ f 30 = .slice a n c
  | 7, f, _ => ∃ n : Nat, n ≤ 40 ∧ f 31 = .int .i64 (n : Int)
  | 8, f, _ => ∃ n : Nat, 1 ≤ n ∧ n ≤ 41 ∧ f 32 = .int .i64 (n : Int)
  | 9, f, _ => ∃ z : Int, f 33 = .int .i64 z
  | 10, f, w => SL R 3 w (f 34)
  | 11, f, _ => f 35 = .pointer (some ⟨R, 0, none⟩)
  | 12, f, _ => ∃ i : Nat, i < 3 ∧ f 36 = .int .i64 (i : Int)
  | 13, f, w => SA R w (f 37)
  | 14, f, _ => ∃ sg : ByteArray, sg.size ≤ 8 ∧ f 38 = .string sg
  | 15, f, _ => f 2 = V
  | 16, f, _ => ∃ z : Int, f 3 = .int .i64 z
  | 17, f, _ => ∃ z : Int, f 4 = .int .i64 z
  | 18, f, _ => ∃ sg : ByteArray, sg.size ≤ 8 ∧ f 5 = .string sg
  | _, _, _ => True
theorem IbF.mut {R : Nat} {V : Value} {j : Nat} {f : Nat → Value} {w w' : World} (h : IbF R V j f w) (hM : Mut R w w') : IbF R V j f w' := by
  match j, h with
  | 0, h => exact h
  | 1, h => exact h
  | 2, h => exact h
  | 3, h => exact h
  | 4, h => exact h
  | 5, h => exact h
  | 6, h => exact h
  | 7, h => exact h
  | 8, h => exact h
  | 9, h => exact h
  | 10, h => exact SL.mut h hM
  | 11, h => exact h
  | 12, h => exact h
  | 13, h => exact SA.mut h hM
  | 14, h => exact h
  | 15, h => exact h
  | 16, h => exact h
  | 17, h => exact h
  | 18, h => exact h
  | (m + 19), _ => exact trivial
theorem enters_off : ∀ args w, (callFunc 25 args).run Try.prog w = .ok (.enter 25 args) w := enters_of Try.func25 (by kernel_rfl) rfl
theorem enters_below : ∀ args w, (callFunc 26 args).run Try.prog w = .ok (.enter 26 args) w := enters_of Try.func26 (by kernel_rfl) rfl
theorem enters_ids : ∀ args w, (callFunc 27 args).run Try.prog w = .ok (.enter 27 args) w := enters_of Try.func27 (by kernel_rfl) rfl
end Go.Proofs.Ytpjeccnhgoegkaa
