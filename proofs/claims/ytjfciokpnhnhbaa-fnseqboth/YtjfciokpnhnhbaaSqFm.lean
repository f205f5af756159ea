/-
  What the operations of the regions that put one op more behind a sequence give. No condition.
-/
import Derived.Test.YtjfciokpnhnhbaaSqAp
import Derived.Test.YtjfciokpnhnhbaaSqY
namespace Go.Proofs.Ytjfciokpnhnhbaa
open Go.RowKit
set_option linter.unusedVariables false

/-- 'return with, op, true' -/
def ReF (s0 s1 s2 s4 b : Nat) (v : Value) (x : Ev) : Nat → (Nat → Value) → World → Prop
  | 0, f, _ => f s0 = v
  | 1, f, _ => f s1 = .agg (enc4 x).toArray
  | 2, f, _ => f s2 = v
  | 3, _, w => w.heap[b]? = some (.cells (enc4 x).toArray 36 (0, 0))
  | 4, f, _ => f s4 = .bool true
  | _, _, _ => True
theorem ReF.keep {s0 s1 s2 s4 b : Nat} {v : Value} {x : Ev} {j : Nat} {f : Nat → Value} {w w' : World} (h : ReF s0 s1 s2 s4 b v x j f w) (hb : w.heap[b]? = some (.cells (enc4 x).toArray 36 (0, 0)) → w'.heap[b]? = some (.cells (enc4 x).toArray 36 (0, 0))) : ReF s0 s1 s2 s4 b v x j f w' := by
  match j, h with
  | 0, h => exact h
  | 1, h => exact h
  | 2, h => exact h
  | 3, h => exact hb h
  | 4, h => exact h
  | (m + 5), _ => exact trivial
/-- 'with := append(slices.Clone(l), op)' -/
def AiF (s0 s1 s2 s3 s4 s5 base : Nat) (u : Value) (A : List Ev) (x : Ev) : Nat → (Nat → Value) → World → Prop
  | 0, f, _ => f s0 = u
  | 1, f, w => OwnV w base (f s1) A
  | 2, f, _ => f s2 = .agg (enc4 x).toArray
  | 3, f, w => ∃ g, f s3 = .slice (some ⟨g, 0, none⟩) 1 1 ∧ w.heap[g]? = some (.cells (enc4 x).toArray 36 (0, 0))
  | 4, f, w => OwnV w base (f s4) (A ++ [x]) ∧ ∃ g c, f s4 = .slice (some ⟨g, 0, none⟩) (A.length + 1) c
  | 5, f, _ => f s5 = f s4
  | _, _, _ => True
theorem AiF.below {s0 s1 s2 s3 s4 s5 base : Nat} {u : Value} {A : List Ev} {x : Ev} {j : Nat} {f : Nat → Value} {w w' : World} (h : AiF s0 s1 s2 s3 s4 s5 base u A x j f w) (hB : Below w.heap.size w w') : AiF s0 s1 s2 s3 s4 s5 base u A x j f w' := by
  match j, h with
  | 0, h => exact h
  | 1, h => exact OwnV.below h hB
  | 2, h => exact h
  | 3, h =>
    obtain ⟨g, e, hg⟩ := h
    exact ⟨g, e, (hB.block _ (lt_of_block hg)).trans hg⟩
  | 4, h => exact ⟨OwnV.below h.1 hB, h.2⟩
  | 5, h => exact h
  | (m + 6), _ => exact trivial
/-- 'out := append(append([]SOp{}, l...), o)' -/
def AsF (s0 s1 s2 s3 s4 s5 s6 base : Nat) (u : Value) (A : List Ev) (x : Ev) : Nat → (Nat → Value) → World → Prop
  | 0, f, w => ∃ g, f s0 = .slice (some ⟨g, 0, none⟩) 0 0 ∧ base ≤ g ∧ w.heap[g]? = some (.cells #[] 36 (0, 0))
  | 1, f, _ => f s1 = u
  | 2, f, w => OwnV w base (f s2) A
  | 3, f, _ => f s3 = .agg (enc4 x).toArray
  | 4, f, w => ∃ g, f s4 = .slice (some ⟨g, 0, none⟩) 1 1 ∧ w.heap[g]? = some (.cells (enc4 x).toArray 36 (0, 0))
  | 5, f, w => OwnV w base (f s5) (A ++ [x]) ∧ ∃ g c, f s5 = .slice (some ⟨g, 0, none⟩) (A.length + 1) c
  | 6, f, _ => f s6 = f s5
  | _, _, _ => True
theorem AsF.below {s0 s1 s2 s3 s4 s5 s6 base : Nat} {u : Value} {A : List Ev} {x : Ev} {j : Nat} {f : Nat → Value} {w w' : World} (h : AsF s0 s1 s2 s3 s4 s5 s6 base u A x j f w) (hB : Below w.heap.size w w') : AsF s0 s1 s2 s3 s4 s5 s6 base u A x j f w' := by
  match j, h with
  | 0, h =>
    obtain ⟨g, e, hb, hg⟩ := h
    exact ⟨g, e, hb, (hB.block _ (lt_of_block hg)).trans hg⟩
  | 1, h => exact h
  | 2, h => exact OwnV.below h hB
  | 3, h => exact h
  | 4, h =>
    obtain ⟨g, e, hg⟩ := h
    exact ⟨g, e, (hB.block _ (lt_of_block hg)).trans hg⟩
  | 5, h => exact ⟨OwnV.below h.1 hB, h.2⟩
  | 6, h => exact h
  | (m + 7), _ => exact trivial
theorem results_ctc {fn : Func} {p u v : Tmp} {ty : TypeId} (h : fn.results = #[.tmp u, .cell p ty, .tmp v]) (tmps : Array Value) (P : Program) (w : World) :
    (results fn tmps).run P w = ((asAddr (tmps.getD p undef)).run P w).andThen fun a w₁ => ((loadVar ty a).run P w₁).andThen fun x w₂ => .ok (.tuple #[tmps.getD u undef, x, tmps.getD v undef]) w₂ := by
  simp only [results, h]
  simp [Sem.run_bind, Result.andThen]
theorem results_trt {P : Program} {fn : Func} {p u v : Tmp} {ty : TypeId} (h : fn.results = #[.tmp u, .cell p ty, .tmp v]) (tmps : Array Value) (w : World) (g : Nat) (t : TypeId) (cs : Array Value) (fr : Nat × Nat) (d : TypeDesc)
    (hp : tmps.getD p undef = .pointer (some ⟨g, 0, none⟩)) (hg : w.heap[g]? = some (.cells cs t fr))
    (hu : P.underlying ty = some d) (hd : (match d with | .struct _ | .array _ _ => true | _ => false) = true) (hi : (P.info? ty).map (·.size) = some cs.size) :
    (results fn tmps).run P w = .ok (.tuple #[tmps.getD u undef, .agg cs, tmps.getD v undef]) w := by
  rw [results_ctc h, hp]
  simp [asAddr, run_loadVar_row w g t ty cs fr d hg hu hd hi, Result.andThen]
theorem q_storeE (ev : Operand → Value) (o' : Oper) (w : World) (x y : Operand) (r : Nat) (z : Ev) {p : Array Value} (h : o'.op = .store 36 x y) (hx : ev x = .pointer (some ⟨r, 0, none⟩)) (hy : ev y = .agg (enc4 z).toArray) (hp : p.size = 4) (hb : w.heap[r]? = some (.cells p 36 (0, 0))) : ∃ w', (execOp ev o').run Try.prog w = .ok .skip w' ∧ w'.heap[r]? = some (.cells (enc4 z).toArray 36 (0, 0)) ∧ (∀ q, q ≠ r → w'.heap[q]? = w.heap[q]?) ∧ w'.heap.size = w.heap.size ∧ w'.os = w.os ∧ w'.tape = w.tape ∧ w'.output = w.output := by
  obtain ⟨v0, v1, v2, v3, rfl⟩ : ∃ v0 v1 v2 v3, p = #[v0, v1, v2, v3] := by
    obtain ⟨l⟩ := p
    match l, hp with
    | [v0, v1, v2, v3], _ => exact ⟨v0, v1, v2, v3, rfl⟩
  have e0 : w.cell? ⟨r, 0, none⟩ = some v0 := cellN hb
  have e1 : w.cell? ⟨r, 1, none⟩ = some v1 := cellN hb
  have e2 : w.cell? ⟨r, 2, none⟩ = some v2 := cellN hb
  have e3 : w.cell? ⟨r, 3, none⟩ = some v3 := cellN hb
  have f0 : w.frozen? ⟨r, 0, none⟩ = false := frozN hb
  have f1 : w.frozen? ⟨r, 1, none⟩ = false := frozN hb
  have f2 : w.frozen? ⟨r, 2, none⟩ = false := frozN hb
  have f3 : w.frozen? ⟨r, 3, none⟩ = false := frozN hb
  refine ⟨(((w.setCell ⟨r, 0, none⟩ (.int .i64 z.a)).setCell ⟨r, 1, none⟩ (.int .i64 z.b)).setCell ⟨r, 2, none⟩ (.int .i64 z.c)).setCell ⟨r, 3, none⟩ (.string z.d), ?_, ?_, fun q hq => ?_, by simp [World.setCell], rfl, rfl, rfl⟩
  · simp [execOp, h, hx, hy, enc4]
    go_simp
  · have b1 : (w.setCell ⟨r, 0, none⟩ (.int .i64 z.a)).heap[r]? = some (.cells #[.int .i64 z.a, v1, v2, v3] 36 (0, 0)) := by rw [setCell_heap hb]; rfl
    have b2 : ((w.setCell ⟨r, 0, none⟩ (.int .i64 z.a)).setCell ⟨r, 1, none⟩ (.int .i64 z.b)).heap[r]? = some (.cells #[.int .i64 z.a, .int .i64 z.b, v2, v3] 36 (0, 0)) := by rw [setCell_heap b1]; rfl
    have b3 : (((w.setCell ⟨r, 0, none⟩ (.int .i64 z.a)).setCell ⟨r, 1, none⟩ (.int .i64 z.b)).setCell ⟨r, 2, none⟩ (.int .i64 z.c)).heap[r]? = some (.cells #[.int .i64 z.a, .int .i64 z.b, .int .i64 z.c, v3] 36 (0, 0)) := by rw [setCell_heap b2]; rfl
    rw [setCell_heap b3]
    rfl
  · rw [Below.heap_setCell _ _ _ _ hq, Below.heap_setCell _ _ _ _ hq, Below.heap_setCell _ _ _ _ hq, Below.heap_setCell _ _ _ _ hq]
theorem runS {P : Program} {ops : Array Oper} {Q : Exit → Act → World → Prop} {i : Nat} {o : Oper} {K : Act → World → Prop} {t : Act} {w w' : World} (ho : ops[i]? = some o) (hg : Region.wanted o (yielded ops t.tmps) = true) (hrun : (execOp t.eval o).run P w = .ok .skip w') (h : K (t.put o.dst undef) w') : wpOp P ops Q i K t w := by
  refine wpOp_step ho fun K' hK => ?_
  rw [if_pos hg]
  unfold Oper.wp
  rw [hrun]
  exact hK _ _ h
theorem putSame (a0 : Act) (ds : List Nat) (f : Nat → Value) (d : Nat) (hd : d ∈ ds) : (canon a0 ds f).put (some d) (f d) = canon a0 ds f := by
  rw [canon_put a0 ds f d (f d) hd]
  congr 1
  funext x
  by_cases h : x = d
  · rw [if_pos h, h]
  · rw [if_neg h]
theorem q_moveE (ev : Operand → Value) (o : Oper) (w : World) (x : Operand) (h : o.op = .move x) : (execOp ev o).run Try.prog w = .ok (.value (ev x)) w := by simp [execOp, h]
theorem q_assignE (ev : Operand → Value) (o : Oper) (w : World) (x : Operand) (h : o.op = .assign x) : (execOp ev o).run Try.prog w = .ok (.value (ev x)) w := by simp [execOp, h]
theorem q_callE (ev : Operand → Value) (o : Oper) (w : World) (f : FuncId) (he : ∀ args w, (callFunc f args).run Try.prog w = .ok (.enter f args) w) (x : Operand) (ts : Array TypeId) (h : o.op = .call { callee := .value (.func f), args := #[x], argTypes := ts }) (hf : ev (.func f) = .func (.func f) #[] #[]) : (execOp ev o).run Try.prog w = .ok (.enter f #[ev x]) w := by
  simp [execOp, h, resolve, invoke, hf, Deferred.ofValue, he]
end Go.Proofs.Ytjfciokpnhnhbaa
