/-
  The reader of codes draws an event: whatever the code, an event, and all memory but the reader's own as it was. Condition: the code reads as bytes.
-/
import Derived.Test.YtglnnocfdlachaaDrawE
import Derived.Test.YtglnnocfdlachaaReg
import Derived.Test.YtglnnocfdlachaaEv
import Derived.Deep.Cut
import Derived.Shelf.Abstract
namespace Go.Proofs.Ytglnnocfdlachaa
open Go.RowKit Go.Shelf
set_option linter.unusedVariables false

theorem Mut.setNew {R : Nat} {a w : World} (h : Mut R a w) {k : Nat} (hk : a.heap.size ≤ k) (o : Nat) (u : Value) : Mut R a (w.setCell ⟨k, o, none⟩ u) :=
  ⟨h.os, h.tape, h.output, by simpa [World.setCell] using h.size, fun i hi hr => (Below.heap_setCell _ _ _ _ (show i ≠ k by omega)).trans (h.block i hi hr)⟩
theorem Draw.setNew {W : World} {a : Option Addr} {len cap R : Nat} {w : World} (h : Draw W a len cap R w) {k : Nat} (hk : W.heap.size ≤ k) (hR : k ≠ R) (o : Nat) (u : Value) : Draw W a len cap R (w.setCell ⟨k, o, none⟩ u) := by
  obtain ⟨p, hp, hb⟩ := h.box
  exact ⟨h.bel.setCell (p := ⟨k, o, none⟩) hk u, h.new, p, hp, (Below.heap_setCell _ _ _ _ (show R ≠ k from fun e => hR e.symm)).trans hb⟩

/-- a new block that holds an event -/
def New36 (R b : Nat) (v : Value) (w : World) : Prop := ∃ (k : Nat) (p q r s : Int), v = .pointer (some ⟨k, 0, none⟩) ∧ b ≤ k ∧ k ≠ R ∧ w.heap[k]? = some (.cells #[.int .i64 p, .int .i64 q, .int .i64 r, .int .i64 s] 30 (0, 0))
/-- a new block that holds the four authors -/
def Lit (R b k : Nat) (w : World) : Prop := b ≤ k ∧ k ≠ R ∧ w.heap[k]? = some (.cells #[.int .i64 1, .int .i64 1, .int .i64 2, .int .i64 3] 2 (0, 0))
/-- what operation j leaves -/
def FactE (R b j : Nat) (v : Value) (w : World) : Prop :=
  if j = 15 then New36 R b v w
  else if j = 3 then ∃ k, v = .slice (some ⟨k, 0, none⟩) 4 4 ∧ Lit R b k w
  else if j = 6 then ∃ (k x : Nat), x < 4 ∧ v = .pointer (some ⟨k, x, none⟩) ∧ Lit R b k w
  else if j = 14 then ∃ p q r s : Int, v = .agg #[.int .i64 p, .int .i64 q, .int .i64 r, .int .i64 s]
  else if j = 5 then ∃ x : Nat, x < 4 ∧ v = .int .i64 x
  else if j = 0 ∨ j = 4 ∨ j = 8 ∨ j = 11 then v = .pointer (some ⟨R, 0, none⟩)
  else if j = 1 ∨ j = 9 ∨ j = 12 then ∃ x : Int, 0 ≤ x ∧ x < 40 ∧ v = .int .i64 x
  else ∃ x : Int, v = .int .i64 x
theorem New36.mut {R b : Nat} {v : Value} {w w' : World} (h : New36 R b v w) (hM : Mut R w w') : New36 R b v w' := by
  obtain ⟨k, p, q, r, s, e, h1, h2, h3⟩ := h
  exact ⟨k, p, q, r, s, e, h1, h2, (hM.block k (lt_of_block h3) h2).trans h3⟩
theorem Lit.mut {R b k : Nat} {w w' : World} (h : Lit R b k w) (hM : Mut R w w') : Lit R b k w' :=
  ⟨h.1, h.2.1, (hM.block k (lt_of_block h.2.2) h.2.1).trans h.2.2⟩
theorem FactE.mut {R b j : Nat} {v : Value} {w w' : World} (h : FactE R b j v w) (hM : Mut R w w') : FactE R b j v w' := by
  unfold FactE at h ⊢
  by_cases h15 : j = 15
  · rw [if_pos h15] at h ⊢; exact h.mut hM
  rw [if_neg h15] at h ⊢
  by_cases h3 : j = 3
  · rw [if_pos h3] at h ⊢; obtain ⟨k, e, hl⟩ := h; exact ⟨k, e, hl.mut hM⟩
  rw [if_neg h3] at h ⊢
  by_cases h6 : j = 6
  · rw [if_pos h6] at h ⊢; obtain ⟨k, x, hx, e, hl⟩ := h; exact ⟨k, x, hx, e, hl.mut hM⟩
  rw [if_neg h6] at h ⊢
  exact h
/-- the slot of operation j -/
def slotE (j : Nat) : Nat := if j = 15 then 3 else j + 4
/-- the region's invariant -/
structure RI (W : World) (a : Option Addr) (len cap R : Nat) (w0 : World) (x1 x2 : Value) (l : Nat → Bool) (t : Act) (w : World) : Prop where
  size : t.tmps.size = 25
  defers : t.defers = []
  s0 : t.eval (.tmp 0) = .pointer (some ⟨R, 0, none⟩)
  s1 : t.eval (.tmp 1) = x1
  s2 : t.eval (.tmp 2) = x2
  draw : Draw W a len cap R w
  keep : Mut R w0 w
  facts : ∀ j, j < 16 → l j = true → FactE R w0.heap.size j (t.eval (.tmp (slotE j))) w
theorem RI.step {W : World} {a : Option Addr} {len cap R : Nat} {w0 : World} {x1 x2 : Value} {l : Nat → Bool} {t : Act} {w w' : World} (h : RI W a len cap R w0 x1 x2 l t w) (i d : Nat) (hd : slotE i = d) (hi : i < 16) (v : Value) (hD : Draw W a len cap R w') (hM : Mut R w w') (hv : FactE R w0.heap.size i v w') :
    RI W a len cap R w0 x1 x2 (fun j => l j || j == i) (t.put (some d) v) w' := by
  subst hd
  have hds : slotE i < 25 ∧ 3 ≤ slotE i := by unfold slotE; split <;> omega
  refine RI.mk ((put_size _ _ _).trans h.size) h.defers ((put_eval_ne _ _ _ _ (by omega)).trans h.s0) ((put_eval_ne _ _ _ _ (by omega)).trans h.s1) ((put_eval_ne _ _ _ _ (by omega)).trans h.s2) hD (h.keep.trans hM) (fun j hj hl => ?_)
  by_cases e : j = i
  · subst e
    rw [put_eval_same _ _ _ (by rw [h.size]; exact hds.1)]
    exact hv
  · have hl' : l j = true := by
      have : (j == i) = false := by simpa using e
      simpa [this] using hl
    rw [put_eval_ne _ _ _ _ (by unfold slotE; split <;> split <;> omega)]
    exact (h.facts j hj hl').mut hM


theorem wpOp_run {P : Program} {ops : Array Oper} {Q : Exit → Act → World → Prop} {i : Nat} {o : Oper} {K : Act → World → Prop} {t : Act} {w w' : World} {v : Value} (ho : ops[i]? = some o) (hg : o.guard = none) (hrun : (execOp t.eval o).run P w = .ok (.value v) w') (h : K (t.put o.dst v) w') : wpOp P ops Q i K t w := by
  refine wpOp_step ho fun K' hK => ?_
  rw [if_pos (by simp [Region.wanted, hg])]
  unfold Oper.wp
  rw [hrun]
  exact hK _ _ h
theorem wpOp_skip {P : Program} {ops : Array Oper} {Q : Exit → Act → World → Prop} {i : Nat} {o : Oper} {K : Act → World → Prop} {t : Act} {w w' : World} (ho : ops[i]? = some o) (hg : o.guard = none) (hrun : (execOp t.eval o).run P w = .ok .skip w') (h : K (t.put o.dst undef) w') : wpOp P ops Q i K t w := by
  refine wpOp_step ho fun K' hK => ?_
  rw [if_pos (by simp [Region.wanted, hg])]
  unfold Oper.wp
  rw [hrun]
  exact hK _ _ h
theorem wpOp_enter {P : Program} {ops : Array Oper} {Q : Exit → Act → World → Prop} {i : Nat} {o : Oper} {K : Act → World → Prop} {t : Act} {w : World} {f : FuncId} {args : Array Value} (ho : ops[i]? = some o) (hg : o.guard = none) (hrun : (execOp t.eval o).run P w = .ok (.enter f args) w) (h : Calls P f args w fun e w' => ∃ v, e = .returned v ∧ K (t.put o.dst v) w') : wpOp P ops Q i K t w := by
  refine wpOp_step ho fun K' hK => ?_
  rw [if_pos (by simp [Region.wanted, hg])]
  unfold Oper.wp
  rw [hrun]
  refine Calls.mono h ?_
  rintro e w' ⟨v, rfl, hv⟩
  exact hK _ _ hv

theorem enters_below : ∀ args w, (callFunc 32 args).run Try.prog w = .ok (.enter 32 args) w := enters_of Try.func32 (by kernel_rfl) rfl

section
variable (ev : Operand → Value) (o : Oper) (w : World)
theorem r_move (x : Operand) (h : o.op = .move x) : (execOp ev o).run Try.prog w = .ok (.value (ev x)) w := by simp [execOp, h]
theorem r_call (x y : Operand) (ts : Array TypeId) (h : o.op = .call { callee := .value (.func 32), args := #[x, y], argTypes := ts }) (hf : ev (.func 32) = .func (.func 32) #[] #[]) : (execOp ev o).run Try.prog w = .ok (.enter 32 #[ev x, ev y]) w := by
  simp [execOp, h, resolve, invoke, hf, Deferred.ofValue]
theorem r_add (x y : Operand) (z : Int) (h : o.op = .binOp .add 3 x y 3) (hx : ev x = .int .i64 1) (hy : ev y = .int .i64 z) (h0 : 0 ≤ z) (h1 : z < 50) : (execOp ev o).run Try.prog w = .ok (.value (.int .i64 (1 + z))) w := by
  have hw : IntKind.i64.wrap (1 + z) = 1 + z := by rw [IntKind.wrap_i64]; omega
  simp [execOp, h, hx, hy]
  go_simp
theorem r_lit (c0 c1 c2 c3 : Operand) (h : o.op = .buildSlice 39 4 #[(0, c0), (1, c1), (2, c2), (3, c3)]) (h0 : ev c0 = .int .i64 1) (h1 : ev c1 = .int .i64 1) (h2 : ev c2 = .int .i64 2) (h3 : ev c3 = .int .i64 3) :
    (execOp ev o).run Try.prog w = .ok (.value (.slice (some ⟨w.heap.size, 0, none⟩) 4 4)) (w.alloc (.cells #[.int .i64 1, .int .i64 1, .int .i64 2, .int .i64 3] 2)) := by
  simp [execOp, h, h0, h1, h2, h3]
  go_simp
theorem r_index (x y : Operand) (k n : Nat) (hn : n < 4) (h : o.op = .indexAddr 39 x y) (hx : ev x = .slice (some ⟨k, 0, none⟩) 4 4) (hy : ev y = .int .i64 n) : (execOp ev o).run Try.prog w = .ok (.value (.pointer (some ⟨k, n, none⟩))) w := by
  have hnI : (n : Int) < 4 := by omega
  simp [execOp, h, hx, hy]
  go_simp
theorem r_load (x : Operand) (k n : Nat) (v : Int) (h : o.op = .load 2 x) (hx : ev x = .pointer (some ⟨k, n, none⟩)) (hc : w.cell? ⟨k, n, none⟩ = some (.int .i64 v)) : (execOp ev o).run Try.prog w = .ok (.value (.int .i64 v)) w := by
  simp [execOp, h, hx]
  go_simp
theorem r_build (x0 x1 x2 x3 : Operand) (p q r s : Int) (h : o.op = .build 30 #[(0, x0), (1, x1), (2, x2), (3, x3)]) (h0 : ev x0 = .int .i64 p) (h1 : ev x1 = .int .i64 q) (h2 : ev x2 = .int .i64 r) (h3 : ev x3 = .int .i64 s) :
    (execOp ev o).run Try.prog w = .ok (.value (.agg #[.int .i64 p, .int .i64 q, .int .i64 r, .int .i64 s])) w := by
  simp [execOp, h, h0, h1, h2, h3]
  go_simp
theorem r_alloc (h : o.op = .alloc 30) : (execOp ev o).run Try.prog w = .ok (.value (.pointer (some ⟨w.heap.size, 0, none⟩))) (w.alloc (.cells #[.int .i64 0, .int .i64 0, .int .i64 0, .int .i64 0] 30)) := by
  simp [execOp, h]
  go_simp
theorem r_store (x y : Operand) (k : Nat) (p q r s p' q' r' s' : Int) (h : o.op = .store 30 x y) (hx : ev x = .pointer (some ⟨k, 0, none⟩)) (hy : ev y = .agg #[.int .i64 p', .int .i64 q', .int .i64 r', .int .i64 s']) (hb : w.heap[k]? = some (.cells #[.int .i64 p, .int .i64 q, .int .i64 r, .int .i64 s] 30 (0, 0))) :
    (execOp ev o).run Try.prog w = .ok .skip ((((w.setCell ⟨k, 0, none⟩ (.int .i64 p')).setCell ⟨k, 1, none⟩ (.int .i64 q')).setCell ⟨k, 2, none⟩ (.int .i64 r')).setCell ⟨k, 3, none⟩ (.int .i64 s')) := by
  have c0 : w.cell? ⟨k, 0, none⟩ = some (.int .i64 p) := cellN hb
  have c1 : w.cell? ⟨k, 1, none⟩ = some (.int .i64 q) := cellN hb
  have c2 : w.cell? ⟨k, 2, none⟩ = some (.int .i64 r) := cellN hb
  have c3 : w.cell? ⟨k, 3, none⟩ = some (.int .i64 s) := cellN hb
  have f0 : w.frozen? ⟨k, 0, none⟩ = false := frozN hb
  have f1 : w.frozen? ⟨k, 1, none⟩ = false := frozN hb
  have f2 : w.frozen? ⟨k, 2, none⟩ = false := frozN hb
  have f3 : w.frozen? ⟨k, 3, none⟩ = false := frozN hb
  simp [execOp, h, hx, hy]
  go_simp
end

section
variable {W : World} {a : Option Addr} {len cap R : Nat} {Z : Nat → Int}
theorem FactE.ptr {R b j : Nat} {v : Value} {w : World} (hj : j = 0 ∨ j = 4 ∨ j = 8 ∨ j = 11) : FactE R b j v w = (v = .pointer (some ⟨R, 0, none⟩)) := by
  rcases hj with rfl | rfl | rfl | rfl <;> simp [FactE]
theorem FactE.num {R b j : Nat} {v : Value} {w : World} (hj : j = 1 ∨ j = 9 ∨ j = 12) : FactE R b j v w = (∃ x : Int, 0 ≤ x ∧ x < 40 ∧ v = .int .i64 x) := by
  rcases hj with rfl | rfl | rfl <;> simp [FactE]
theorem FactE.sum {R b j : Nat} {v : Value} {w : World} (hj : j = 2 ∨ j = 7 ∨ j = 10 ∨ j = 13) : FactE R b j v w = (∃ x : Int, v = .int .i64 x) := by
  rcases hj with rfl | rfl | rfl | rfl <;> simp [FactE]
theorem FactE.five {R b : Nat} {v : Value} {w : World} : FactE R b 5 v w = (∃ x : Nat, x < 4 ∧ v = .int .i64 x) := by simp [FactE]
theorem FactE.three {R b : Nat} {v : Value} {w : World} : FactE R b 3 v w = (∃ k, v = .slice (some ⟨k, 0, none⟩) 4 4 ∧ Lit R b k w) := by simp [FactE]
theorem FactE.six {R b : Nat} {v : Value} {w : World} : FactE R b 6 v w = (∃ (k x : Nat), x < 4 ∧ v = .pointer (some ⟨k, x, none⟩) ∧ Lit R b k w) := by simp [FactE]
theorem FactE.agg {R b : Nat} {v : Value} {w : World} : FactE R b 14 v w = (∃ p q r s : Int, v = .agg #[.int .i64 p, .int .i64 q, .int .i64 r, .int .i64 s]) := by simp [FactE]
theorem FactE.new {R b : Nat} {v : Value} {w : World} : FactE R b 15 v w = New36 R b v w := by simp [FactE]
/-- a store into the event's own block -/
theorem RI.store {w0 : World} {x1 x2 : Value} {l : Nat → Bool} {t : Act} {w : World} (h : RI W a len cap R w0 x1 x2 l t w) (hW : W.heap.size ≤ w0.heap.size) (k : Nat) (p q r s p' q' r' s' : Int) (hk : w0.heap.size ≤ k) (hR : k ≠ R) (hb : w.heap[k]? = some (.cells #[.int .i64 p, .int .i64 q, .int .i64 r, .int .i64 s] 30 (0, 0))) :
    RI W a len cap R w0 x1 x2 (fun j => l j || j == 16) (t.put none undef) ((((w.setCell ⟨k, 0, none⟩ (.int .i64 p')).setCell ⟨k, 1, none⟩ (.int .i64 q')).setCell ⟨k, 2, none⟩ (.int .i64 r')).setCell ⟨k, 3, none⟩ (.int .i64 s')) := by
  have hWk : W.heap.size ≤ k := Nat.le_trans hW hk
  have hoth : ∀ k', k' ≠ k → ((((w.setCell ⟨k, 0, none⟩ (.int .i64 p')).setCell ⟨k, 1, none⟩ (.int .i64 q')).setCell ⟨k, 2, none⟩ (.int .i64 r')).setCell ⟨k, 3, none⟩ (.int .i64 s')).heap[k']? = w.heap[k']? := fun k' hk' => by
    rw [Below.heap_setCell _ _ _ _ hk', Below.heap_setCell _ _ _ _ hk', Below.heap_setCell _ _ _ _ hk', Below.heap_setCell _ _ _ _ hk']
  have hnew : ((((w.setCell ⟨k, 0, none⟩ (.int .i64 p')).setCell ⟨k, 1, none⟩ (.int .i64 q')).setCell ⟨k, 2, none⟩ (.int .i64 r')).setCell ⟨k, 3, none⟩ (.int .i64 s')).heap[k]? = some (.cells #[.int .i64 p', .int .i64 q', .int .i64 r', .int .i64 s'] 30 (0, 0)) := by
    have e0 := heap_setCell_same w k 0 _ 30 (.int .i64 p') hb
    have e1 := heap_setCell_same _ k 1 _ 30 (.int .i64 q') e0
    have e2 := heap_setCell_same _ k 2 _ 30 (.int .i64 r') e1
    have e3 := heap_setCell_same _ k 3 _ 30 (.int .i64 s') e2
    rw [e3]; rfl
  have hlit : ∀ k', Lit R w0.heap.size k' w → Lit R w0.heap.size k' ((((w.setCell ⟨k, 0, none⟩ (.int .i64 p')).setCell ⟨k, 1, none⟩ (.int .i64 q')).setCell ⟨k, 2, none⟩ (.int .i64 r')).setCell ⟨k, 3, none⟩ (.int .i64 s')) := fun k' hl => by
    refine ⟨hl.1, hl.2.1, (hoth k' ?_).trans hl.2.2⟩
    rintro rfl
    have h2 := hl.2.2
    rw [hb] at h2
    simp at h2
  refine RI.mk h.size h.defers h.s0 h.s1 h.s2 ((((h.draw.setNew hWk hR 0 _).setNew hWk hR 1 _).setNew hWk hR 2 _).setNew hWk hR 3 _) ((((h.keep.setNew hk 0 _).setNew hk 1 _).setNew hk 2 _).setNew hk 3 _) (fun j hj hl => ?_)
  have hl' : l j = true := by
    have : (j == 16) = false := by simp; omega
    simpa [this] using hl
  have hf := h.facts j hj hl'
  show FactE R w0.heap.size j (t.eval _) _
  unfold FactE at hf ⊢
  by_cases h15 : j = 15
  · rw [if_pos h15] at hf ⊢
    obtain ⟨k2, p2, q2, r2, s2, e, g1, g2, g3⟩ := hf
    by_cases hkk : k2 = k
    · subst hkk; exact ⟨k2, p', q', r', s', e, g1, g2, hnew⟩
    · exact ⟨k2, p2, q2, r2, s2, e, g1, g2, (hoth k2 hkk).trans g3⟩
  rw [if_neg h15] at hf ⊢
  by_cases h3 : j = 3
  · rw [if_pos h3] at hf ⊢; obtain ⟨k2, e, g⟩ := hf; exact ⟨k2, e, hlit _ g⟩
  rw [if_neg h3] at hf ⊢
  by_cases h6 : j = 6
  · rw [if_pos h6] at hf ⊢; obtain ⟨k2, x, hx, e, g⟩ := hf; exact ⟨k2, x, hx, e, hlit _ g⟩
  rw [if_neg h6] at hf ⊢
  exact hf

theorem set4_same {w : World} {k : Nat} {p q r s : Value} (p' q' r' s' : Value) (hb : w.heap[k]? = some (.cells #[p, q, r, s] 30 (0, 0))) :
    ((((w.setCell ⟨k, 0, none⟩ p').setCell ⟨k, 1, none⟩ q').setCell ⟨k, 2, none⟩ r').setCell ⟨k, 3, none⟩ s').heap[k]? = some (.cells #[p', q', r', s'] 30 (0, 0)) := by
  have e0 := heap_setCell_same w k 0 _ 30 p' hb
  have e1 := heap_setCell_same _ k 1 _ 30 q' e0
  have e2 := heap_setCell_same _ k 2 _ 30 r' e1
  have e3 := heap_setCell_same _ k 3 _ 30 s' e2
  rw [e3]; rfl

set_option maxHeartbeats 2000000 in
theorem mevent_any (hU : IsU8 W a len cap Z) (w : World) (h : Draw W a len cap R w) :
    Calls Try.prog 30 #[.pointer (some ⟨R, 0, none⟩)] w fun e w' => ∃ x : Ev, e = .returned (.agg #[.int .i64 x.a, .int .i64 x.b, .int .i64 x.c, .int .i64 x.d]) ∧ Draw W a len cap R w' ∧ Mut R w w' := by
  obtain ⟨w0, hw0⟩ : ∃ w0, w0 = w.alloc (.cells #[.int .i64 0, .int .i64 0, .int .i64 0, .int .i64 0] 30) := ⟨_, rfl⟩
  have hD0 : Draw W a len cap R w0 := by rw [hw0]; exact h.alloc _
  have hM0 : Mut R w w0 := by rw [hw0]; exact (Mut.refl R w).alloc _
  have hs0 : w0.heap.size = w.heap.size + 1 := by rw [hw0]; simp
  have hWs : W.heap.size ≤ w0.heap.size := hD0.bel.size
  have HR : R < w.heap.size := h.lt
  have HX : Hid (W.heap.size ≤ w.heap.size) := h.bel.size
  have hg0 : w0.heap[w.heap.size]? = some (.cells #[.int .i64 0, .int .i64 0, .int .i64 0, .int .i64 0] 30 (0, 0)) := by rw [hw0]; exact heap_alloc_new _ _
  have HH : Hid (Draw W a len cap R w0 ∧ Mut R w w0 ∧ w0.heap.size = w.heap.size + 1 ∧ W.heap.size ≤ w0.heap.size ∧ w0.heap[w.heap.size]? = some (.cells #[.int .i64 0, .int .i64 0, .int .i64 0, .int .i64 0] 30 (0, 0))) := ⟨hD0, hM0, hs0, hWs, hg0⟩
  have HW0 : Hid (w0 = _) := hw0
  clear hD0 hM0 hs0 hWs hg0 hw0 h
  go_enter Try.func30, Try.ntmps30
  go_wp2
  rw [← HW0.out]
  refine wp_cut (fun t w' => RI W a len cap R w0 undef (.pointer (some ⟨w.heap.size, 0, none⟩)) (fun j => j == 15) t w') ?_ ?_
  · intro t w' hI
    obtain ⟨⟨tm⟩, df⟩ := t
    obtain ⟨hsz, hdf, h0, h1, h2, hD, hM, hF⟩ := hI
    have hF := hF 15 (by omega) rfl
    rw [FactE.new] at hF
    obtain ⟨k, p, q, r, s, hv, hk, hR, hb⟩ := hF
    match tm, hsz with
    | [x0, x1, x2, x3, x4, x5, x6, x7, x8, x9, x10, x11, x12, x13, x14, x15, x16, x17, x18, x19, x20, x21, x22, x23, x24], _ =>
    obtain rfl : df = [] := hdf
    obtain rfl : x0 = .pointer (some ⟨R, 0, none⟩) := h0
    obtain rfl : x1 = undef := h1
    obtain rfl : x2 = .pointer (some ⟨w.heap.size, 0, none⟩) := h2
    obtain rfl : x3 = .pointer (some ⟨k, 0, none⟩) := hv
    have hM' : Mut R w w' := HH.out.2.1.trans hM
    have c0 : w'.heap[w.heap.size]? = some (.cells #[.int .i64 0, .int .i64 0, .int .i64 0, .int .i64 0] 30 (0, 0)) := (hM.block _ (by have := HH.out.2.2.1; omega) (by omega)).trans HH.out.2.2.2.2
    have hne : w.heap.size ≠ k := by have := HH.out.2.2.1; omega
    have hkW : W.heap.size ≤ k := Nat.le_trans HH.out.2.2.2.1 hk
    have HK : Hid (w.heap.size ≤ k) := by show _ ≤ _; have := HH.out.2.2.1; omega
    clear hM hF
    go_wp2_with fail
    refine (once_any hU 40 (by omega) (by omega) w' hD).mono ?_
    rintro e w2 ⟨y, rfl, hD2, hM2⟩
    have c2 := (hM2.block _ (lt_of_block c0) (by omega)).trans c0
    have b2 := (hM2.block _ (lt_of_block hb) hR).trans hb
    have m2 := hM'.trans hM2
    clear c0 hb hM' hM2 hD
    cases y with
    | false =>
      have c00 : w2.cell? ⟨w.heap.size, 0, none⟩ = some (.int .i64 0) := cellN c2
      have c01 : w2.cell? ⟨w.heap.size, 1, none⟩ = some (.int .i64 0) := cellN c2
      have c02 : w2.cell? ⟨w.heap.size, 2, none⟩ = some (.int .i64 0) := cellN c2
      have c03 : w2.cell? ⟨w.heap.size, 3, none⟩ = some (.int .i64 0) := cellN c2
      have f00 : w2.frozen? ⟨w.heap.size, 0, none⟩ = false := frozN c2
      have f01 : w2.frozen? ⟨w.heap.size, 1, none⟩ = false := frozN c2
      have f02 : w2.frozen? ⟨w.heap.size, 2, none⟩ = false := frozN c2
      have f03 : w2.frozen? ⟨w.heap.size, 3, none⟩ = false := frozN c2
      have d0 : w2.cell? ⟨k, 0, none⟩ = some (.int .i64 p) := cellN b2
      have d1 : w2.cell? ⟨k, 1, none⟩ = some (.int .i64 q) := cellN b2
      have d2 : w2.cell? ⟨k, 2, none⟩ = some (.int .i64 r) := cellN b2
      have d3 : w2.cell? ⟨k, 3, none⟩ = some (.int .i64 s) := cellN b2
      have HF : Hid (((((w2.setCell ⟨w.heap.size, 0, none⟩ (.int .i64 p)).setCell ⟨w.heap.size, 1, none⟩ (.int .i64 q)).setCell ⟨w.heap.size, 2, none⟩ (.int .i64 r)).setCell ⟨w.heap.size, 3, none⟩ (.int .i64 s)).heap[w.heap.size]? = some (.cells #[.int .i64 p, .int .i64 q, .int .i64 r, .int .i64 s] 30 (0, 0)) ∧ Draw W a len cap R ((((w2.setCell ⟨w.heap.size, 0, none⟩ (.int .i64 p)).setCell ⟨w.heap.size, 1, none⟩ (.int .i64 q)).setCell ⟨w.heap.size, 2, none⟩ (.int .i64 r)).setCell ⟨w.heap.size, 3, none⟩ (.int .i64 s)) ∧ Mut R w ((((w2.setCell ⟨w.heap.size, 0, none⟩ (.int .i64 p)).setCell ⟨w.heap.size, 1, none⟩ (.int .i64 q)).setCell ⟨w.heap.size, 2, none⟩ (.int .i64 r)).setCell ⟨w.heap.size, 3, none⟩ (.int .i64 s))) :=
        ⟨set4_same _ _ _ _ c2, ((((hD2).setNew HX.out (by omega) 0 _).setNew HX.out (by omega) 1 _).setNew HX.out (by omega) 2 _).setNew HX.out (by omega) 3 _, (((m2.setNew (Nat.le_refl _) 0 _).setNew (Nat.le_refl _) 1 _).setNew (Nat.le_refl _) 2 _).setNew (Nat.le_refl _) 3 _⟩
      clear c2 b2 hD2 m2
      go_wp2
      exact bodyPost_ret (v := .agg #[.int .i64 p, .int .i64 q, .int .i64 r, .int .i64 s]) (results_cell_row rfl _ _ w.heap.size 30 _ _ _ rfl HF.out.1 Try.underlying30 rfl infoE4) rfl ⟨⟨p, q, r, s⟩, rfl, HF.out.2.1, HF.out.2.2⟩
    | true =>
      go_wp2_with fail
      refine (off_any hU w2 hD2).mono ?_
      rintro e w3 ⟨z, rfl, hD3, hM3⟩
      have c3' := (hM3.block _ (lt_of_block c2) (by omega)).trans c2
      have b3' := (hM3.block _ (lt_of_block b2) hR).trans b2
      have m3' := m2.trans hM3
      have e3 : w3.cell? ⟨k, 3, none⟩ = some (.int .i64 s) := cellN b3'
      have g3 : w3.frozen? ⟨k, 3, none⟩ = false := frozN b3'
      have C3 : (w3.setCell ⟨k, 3, none⟩ (.int .i64 z)).heap[w.heap.size]? = some (.cells #[.int .i64 0, .int .i64 0, .int .i64 0, .int .i64 0] 30 (0, 0)) := (Below.heap_setCell _ _ _ _ hne).trans c3'
      have B3 : (w3.setCell ⟨k, 3, none⟩ (.int .i64 z)).heap[k]? = some (.cells #[.int .i64 p, .int .i64 q, .int .i64 r, .int .i64 z] 30 (0, 0)) := by
        rw [heap_setCell_same _ _ _ _ 30 _ b3']; rfl
      have D3 := hD3.setNew hkW hR 3 (.int .i64 z)
      have M3 := m3'.setNew HK.out 3 (.int .i64 z)
      have c00 : (w3.setCell ⟨k, 3, none⟩ (.int .i64 z)).cell? ⟨w.heap.size, 0, none⟩ = some (.int .i64 0) := cellN C3
      have c01 : (w3.setCell ⟨k, 3, none⟩ (.int .i64 z)).cell? ⟨w.heap.size, 1, none⟩ = some (.int .i64 0) := cellN C3
      have c02 : (w3.setCell ⟨k, 3, none⟩ (.int .i64 z)).cell? ⟨w.heap.size, 2, none⟩ = some (.int .i64 0) := cellN C3
      have c03 : (w3.setCell ⟨k, 3, none⟩ (.int .i64 z)).cell? ⟨w.heap.size, 3, none⟩ = some (.int .i64 0) := cellN C3
      have f00 : (w3.setCell ⟨k, 3, none⟩ (.int .i64 z)).frozen? ⟨w.heap.size, 0, none⟩ = false := frozN C3
      have f01 : (w3.setCell ⟨k, 3, none⟩ (.int .i64 z)).frozen? ⟨w.heap.size, 1, none⟩ = false := frozN C3
      have f02 : (w3.setCell ⟨k, 3, none⟩ (.int .i64 z)).frozen? ⟨w.heap.size, 2, none⟩ = false := frozN C3
      have f03 : (w3.setCell ⟨k, 3, none⟩ (.int .i64 z)).frozen? ⟨w.heap.size, 3, none⟩ = false := frozN C3
      have d0 : (w3.setCell ⟨k, 3, none⟩ (.int .i64 z)).cell? ⟨k, 0, none⟩ = some (.int .i64 p) := cellN B3
      have d1 : (w3.setCell ⟨k, 3, none⟩ (.int .i64 z)).cell? ⟨k, 1, none⟩ = some (.int .i64 q) := cellN B3
      have d2 : (w3.setCell ⟨k, 3, none⟩ (.int .i64 z)).cell? ⟨k, 2, none⟩ = some (.int .i64 r) := cellN B3
      have d3 : (w3.setCell ⟨k, 3, none⟩ (.int .i64 z)).cell? ⟨k, 3, none⟩ = some (.int .i64 z) := cellN B3
      have HF : Hid ((((((w3.setCell ⟨k, 3, none⟩ (.int .i64 z)).setCell ⟨w.heap.size, 0, none⟩ (.int .i64 p)).setCell ⟨w.heap.size, 1, none⟩ (.int .i64 q)).setCell ⟨w.heap.size, 2, none⟩ (.int .i64 r)).setCell ⟨w.heap.size, 3, none⟩ (.int .i64 z)).heap[w.heap.size]? = some (.cells #[.int .i64 p, .int .i64 q, .int .i64 r, .int .i64 z] 30 (0, 0)) ∧ Draw W a len cap R (((((w3.setCell ⟨k, 3, none⟩ (.int .i64 z)).setCell ⟨w.heap.size, 0, none⟩ (.int .i64 p)).setCell ⟨w.heap.size, 1, none⟩ (.int .i64 q)).setCell ⟨w.heap.size, 2, none⟩ (.int .i64 r)).setCell ⟨w.heap.size, 3, none⟩ (.int .i64 z)) ∧ Mut R w (((((w3.setCell ⟨k, 3, none⟩ (.int .i64 z)).setCell ⟨w.heap.size, 0, none⟩ (.int .i64 p)).setCell ⟨w.heap.size, 1, none⟩ (.int .i64 q)).setCell ⟨w.heap.size, 2, none⟩ (.int .i64 r)).setCell ⟨w.heap.size, 3, none⟩ (.int .i64 z))) :=
        ⟨set4_same _ _ _ _ C3, ((((D3).setNew HX.out (by omega) 0 _).setNew HX.out (by omega) 1 _).setNew HX.out (by omega) 2 _).setNew HX.out (by omega) 3 _, (((M3.setNew (Nat.le_refl _) 0 _).setNew (Nat.le_refl _) 1 _).setNew (Nat.le_refl _) 2 _).setNew (Nat.le_refl _) 3 _⟩
      clear c2 b2 hD2 m2 c3' b3' m3' C3 B3 D3 M3 hD3 hM3
      go_wp2
      exact bodyPost_ret (v := .agg #[.int .i64 p, .int .i64 q, .int .i64 r, .int .i64 z]) (results_cell_row rfl _ _ w.heap.size 30 _ _ _ rfl HF.out.1 Try.underlying30 rfl infoE4) rfl ⟨⟨p, q, r, z⟩, rfl, HF.out.2.1, HF.out.2.2⟩
  · intro J K' hJ hK
    refine wp_region_inv (by kernel_rfl) (I := fun l t w' => RI W a len cap R w0 undef (.pointer (some ⟨w.heap.size, 0, none⟩)) l t w') ?_ ?_ ?_
    · exact RI.mk rfl rfl rfl rfl rfl (HH.out.1.drewN 1) ((Mut.refl R w0).drewN 1) (fun j _ hl => by cases hl)
    · intro l t w' hI i o ho hl hd
      have hi : i < 17 := by
        rcases Nat.lt_or_ge i 17 with h | h
        · exact h
        · rw [Array.getElem?_eq_none (by simpa using h)] at ho; cases ho
      have hW0 := HH.out.2.2.2.1
      have hi' : i = 0 ∨ i = 1 ∨ i = 2 ∨ i = 3 ∨ i = 4 ∨ i = 5 ∨ i = 6 ∨ i = 7 ∨ i = 8 ∨ i = 9 ∨ i = 10 ∨ i = 11 ∨ i = 12 ∨ i = 13 ∨ i = 14 ∨ i = 15 ∨ i = 16 := by omega
      have ho2 := ho
      rcases hi' with rfl | rfl | rfl | rfl | rfl | rfl | rfl | rfl | rfl | rfl | rfl | rfl | rfl | rfl | rfl | rfl | rfl <;> simp only [List.getElem?_toArray, List.getElem?_cons_succ, List.getElem?_cons_zero, Option.some.injEq] at ho <;> subst ho
      · exact wpOp_run ho2 rfl (r_move t.eval _ w' _ rfl) (hI.step 0 4 rfl (by omega) _ hI.draw (Mut.refl _ _) (by rw [FactE.ptr (by omega)]; exact hI.s0))
      · have f := hI.facts 0 (by omega) (hd ⟨0, .data⟩ (by simp) rfl)
        rw [FactE.ptr (by omega)] at f
        have f : t.eval (.tmp 4) = .pointer (some ⟨R, 0, none⟩) := f
        refine wpOp_enter ho2 rfl (r_call t.eval _ w' _ _ _ rfl rfl) ?_
        rw [f]
        refine (below_any hU 4 (by omega) (by omega) w' hI.draw).mono ?_
        rintro e w2 ⟨x, hx0, hx1, rfl, hD2, hM2⟩
        refine ⟨_, rfl, hI.step 1 5 rfl (by omega) _ hD2 hM2 ?_⟩
        rw [FactE.num (by omega)]
        exact ⟨x, hx0, by omega, rfl⟩
      · have f := hI.facts 1 (by omega) (hd ⟨1, .data⟩ (by simp) rfl)
        rw [FactE.num (by omega)] at f
        obtain ⟨x, hx0, hx1, f⟩ := f
        exact wpOp_run ho2 rfl (r_add t.eval _ w' _ _ x rfl rfl f hx0 (by omega)) (hI.step 2 6 rfl (by omega) _ hI.draw (Mut.refl _ _) (by rw [FactE.sum (by omega)]; exact ⟨1 + x, rfl⟩))
      · exact wpOp_run ho2 rfl (r_lit t.eval _ w' _ _ _ _ rfl rfl rfl rfl rfl) (hI.step 3 7 rfl (by omega) _ (hI.draw.alloc _) ((Mut.refl R w').alloc _) (by rw [FactE.three]; exact ⟨_, rfl, hI.keep.size, Nat.ne_of_gt hI.draw.lt, heap_alloc_new _ _⟩))
      · exact wpOp_run ho2 rfl (r_move t.eval _ w' _ rfl) (hI.step 4 8 rfl (by omega) _ hI.draw (Mut.refl _ _) (by rw [FactE.ptr (by omega)]; exact hI.s0))
      · have f := hI.facts 4 (by omega) (hd ⟨4, .data⟩ (by simp) rfl)
        rw [FactE.ptr (by omega)] at f
        have f : t.eval (.tmp 8) = .pointer (some ⟨R, 0, none⟩) := f
        refine wpOp_enter ho2 rfl (r_call t.eval _ w' _ _ _ rfl rfl) ?_
        rw [f]
        refine (below_any hU 4 (by omega) (by omega) w' hI.draw).mono ?_
        rintro e w2 ⟨x, hx0, hx1, rfl, hD2, hM2⟩
        refine ⟨_, rfl, hI.step 5 9 rfl (by omega) _ hD2 hM2 ?_⟩
        rw [FactE.five]
        exact ⟨x.toNat, by omega, by rw [Int.toNat_of_nonneg hx0]⟩
      · have f := hI.facts 3 (by omega) (hd ⟨3, .data⟩ (by simp) rfl)
        have g := hI.facts 5 (by omega) (hd ⟨5, .data⟩ (by simp) rfl)
        rw [FactE.three] at f
        rw [FactE.five] at g
        obtain ⟨k, f, hL⟩ := f
        obtain ⟨x, hx, g⟩ := g
        exact wpOp_run ho2 rfl (r_index t.eval _ w' _ _ k x hx rfl f g) (hI.step 6 10 rfl (by omega) _ hI.draw (Mut.refl _ _) (by rw [FactE.six]; exact ⟨k, x, hx, rfl, hL⟩))
      · have f := hI.facts 6 (by omega) (hd ⟨6, .data⟩ (by simp) rfl)
        rw [FactE.six] at f
        obtain ⟨k, x, hx, f, hL⟩ := f
        obtain ⟨v, hv0, hv1, hc⟩ : ∃ v : Int, 0 ≤ v ∧ v < 40 ∧ w'.cell? ⟨k, x, none⟩ = some (.int .i64 v) := by
          have hx' : x = 0 ∨ x = 1 ∨ x = 2 ∨ x = 3 := by omega
          rcases hx' with rfl | rfl | rfl | rfl <;> rw [cellN hL.2.2] <;> exact ⟨_, by omega, by omega, rfl⟩
        exact wpOp_run ho2 rfl (r_load t.eval _ w' _ k x v rfl f hc) (hI.step 7 11 rfl (by omega) _ hI.draw (Mut.refl _ _) (by rw [FactE.sum (by omega)]; exact ⟨v, rfl⟩))
      · exact wpOp_run ho2 rfl (r_move t.eval _ w' _ rfl) (hI.step 8 12 rfl (by omega) _ hI.draw (Mut.refl _ _) (by rw [FactE.ptr (by omega)]; exact hI.s0))
      · have f := hI.facts 8 (by omega) (hd ⟨8, .data⟩ (by simp) rfl)
        rw [FactE.ptr (by omega)] at f
        have f : t.eval (.tmp 12) = .pointer (some ⟨R, 0, none⟩) := f
        refine wpOp_enter ho2 rfl (r_call t.eval _ w' _ _ _ rfl rfl) ?_
        rw [f]
        refine (below_any hU 3 (by omega) (by omega) w' hI.draw).mono ?_
        rintro e w2 ⟨x, hx0, hx1, rfl, hD2, hM2⟩
        refine ⟨_, rfl, hI.step 9 13 rfl (by omega) _ hD2 hM2 ?_⟩
        rw [FactE.num (by omega)]
        exact ⟨x, hx0, by omega, rfl⟩
      · have f := hI.facts 9 (by omega) (hd ⟨9, .data⟩ (by simp) rfl)
        rw [FactE.num (by omega)] at f
        obtain ⟨x, hx0, hx1, f⟩ := f
        exact wpOp_run ho2 rfl (r_add t.eval _ w' _ _ x rfl rfl f hx0 (by omega)) (hI.step 10 14 rfl (by omega) _ hI.draw (Mut.refl _ _) (by rw [FactE.sum (by omega)]; exact ⟨1 + x, rfl⟩))
      · exact wpOp_run ho2 rfl (r_move t.eval _ w' _ rfl) (hI.step 11 15 rfl (by omega) _ hI.draw (Mut.refl _ _) (by rw [FactE.ptr (by omega)]; exact hI.s0))
      · have f := hI.facts 11 (by omega) (hd ⟨11, .data⟩ (by simp) rfl)
        rw [FactE.ptr (by omega)] at f
        have f : t.eval (.tmp 15) = .pointer (some ⟨R, 0, none⟩) := f
        refine wpOp_enter ho2 rfl (r_call t.eval _ w' _ _ _ rfl rfl) ?_
        rw [f]
        refine (below_any hU 5 (by omega) (by omega) w' hI.draw).mono ?_
        rintro e w2 ⟨x, hx0, hx1, rfl, hD2, hM2⟩
        refine ⟨_, rfl, hI.step 12 16 rfl (by omega) _ hD2 hM2 ?_⟩
        rw [FactE.num (by omega)]
        exact ⟨x, hx0, by omega, rfl⟩
      · have f := hI.facts 12 (by omega) (hd ⟨12, .data⟩ (by simp) rfl)
        rw [FactE.num (by omega)] at f
        obtain ⟨x, hx0, hx1, f⟩ := f
        exact wpOp_run ho2 rfl (r_add t.eval _ w' _ _ x rfl rfl f hx0 (by omega)) (hI.step 13 17 rfl (by omega) _ hI.draw (Mut.refl _ _) (by rw [FactE.sum (by omega)]; exact ⟨1 + x, rfl⟩))
      · have fp := hI.facts 2 (by omega) (hd ⟨2, .data⟩ (by simp) rfl)
        rw [FactE.sum (by omega)] at fp
        obtain ⟨p, fp⟩ := fp
        have fq := hI.facts 7 (by omega) (hd ⟨7, .data⟩ (by simp) rfl)
        rw [FactE.sum (by omega)] at fq
        obtain ⟨q, fq⟩ := fq
        have fr := hI.facts 10 (by omega) (hd ⟨10, .data⟩ (by simp) rfl)
        rw [FactE.sum (by omega)] at fr
        obtain ⟨r, fr⟩ := fr
        have fs := hI.facts 13 (by omega) (hd ⟨13, .data⟩ (by simp) rfl)
        rw [FactE.sum (by omega)] at fs
        obtain ⟨s, fs⟩ := fs
        exact wpOp_run ho2 rfl (r_build t.eval _ w' _ _ _ _ p q r s rfl fp fq fr fs) (hI.step 14 18 rfl (by omega) _ hI.draw (Mut.refl _ _) (by rw [FactE.agg]; exact ⟨p, q, r, s, rfl⟩))
      · exact wpOp_run ho2 rfl (r_alloc t.eval _ w' rfl) (hI.step 15 3 rfl (by omega) _ (hI.draw.alloc _) ((Mut.refl R w').alloc _) (by rw [FactE.new]; exact ⟨_, 0, 0, 0, 0, rfl, hI.keep.size, Nat.ne_of_gt hI.draw.lt, heap_alloc_new _ _⟩))
      · have f := hI.facts 15 (by omega) (hd ⟨15, .data⟩ (by simp) rfl)
        have g := hI.facts 14 (by omega) (hd ⟨14, .data⟩ (by simp) rfl)
        rw [FactE.new] at f
        rw [FactE.agg] at g
        obtain ⟨k, p, q, r, s, f, hk, hR, hb⟩ := f
        obtain ⟨p', q', r', s', g⟩ := g
        exact wpOp_skip ho2 rfl (r_store t.eval _ w' _ _ k p q r s p' q' r' s' rfl f g hb) (hI.store hW0 k p q r s p' q' r' s' hk hR hb)
    · intro l t w' hI hall
      have h15 : l 15 = true := hall 15 _ rfl (fun e he => by simp at he)
      refine hK _ _ (Met.intro (hJ _ _ ⟨hI.size, hI.defers, hI.s0, hI.s1, hI.s2, hI.draw, hI.keep, fun j hj hl => ?_⟩))
      have : j = 15 := by simpa using hl
      subst this
      exact hI.facts 15 hj h15
end
end Go.Proofs.Ytglnnocfdlachaa
