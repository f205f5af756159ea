/-
  FnExactSync: the walk of the law. No condition but that the slices that came in read.
-/
import Derived.Test.YtbohaefmokbgbaaDkSy
namespace Go.Proofs.Ytbohaefmokbgbaa
open Go.RowKit
set_option linter.unusedVariables false

/-- a struct of three slices lies in block b -/
def At3 (w : World) (b : Nat) (t : TypeId) (x y z : Value) : Prop := w.heap[b]? = some (.cells #[x, y, z] t (0, 0))
theorem At3.below {w w' : World} {b : Nat} {t : TypeId} {x y z : Value} (h : At3 w b t x y z) (hB : Below w.heap.size w w') : At3 w' b t x y z := (hB.block _ (lt_of_block h)).trans h
theorem At3.lt {w : World} {b : Nat} {t : TypeId} {x y z : Value} (h : At3 w b t x y z) : b < w.heap.size := lt_of_block h
theorem At3.c0 {w : World} {b : Nat} {t : TypeId} {x y z : Value} (h : At3 w b t x y z) : w.cell? ⟨b, 0, none⟩ = some x := cellN h
theorem At3.c1 {w : World} {b : Nat} {t : TypeId} {x y z : Value} (h : At3 w b t x y z) : w.cell? ⟨b, 1, none⟩ = some y := cellN h
theorem At3.c2 {w : World} {b : Nat} {t : TypeId} {x y z : Value} (h : At3 w b t x y z) : w.cell? ⟨b, 2, none⟩ = some z := cellN h
theorem At3.new (w : World) (t : TypeId) (x y z : Value) : At3 (w.alloc (.cells #[x, y, z] t)) w.heap.size t x y z := heap_alloc_new _ _
theorem RdD.slices {w : World} {x y z : Value} {L S : List Fl} {O : List Dop} (h : RdD w x y z L S O) : ∃ a1 c1 a2 c2 a3 c3, x = .slice a1 L.length c1 ∧ y = .slice a2 S.length c2 ∧ z = .slice a3 O.length c3 := by
  obtain ⟨a1, c1, e1⟩ := h.1.slice
  obtain ⟨a2, c2, e2⟩ := h.2.1.slice
  obtain ⟨a3, c3, e3⟩ := h.2.2.slice
  exact ⟨a1, c1, a2, c2, a3, c3, e1, e2, e3⟩

theorem OwD.kept {w w' : World} {base : Nat} {vL vS vO : Value} {nL nS nO : Nat} (h : OwD w base vL vS vO nL nS nO) (he : ∀ k, base ≤ k → k < w.heap.size → w'.heap[k]? = w.heap[k]?) : OwD w' base vL vS vO nL nS nO :=
  ⟨h.l.blk (fun k hk => he k (h.l.lt k hk).1 (h.l.lt k hk).2), h.s.blk (fun k hk => he k (h.s.lt k hk).1 (h.s.lt k hk).2), h.o.blk (fun k hk => he k (h.o.lt k hk).1 (h.o.lt k hk).2), h.ap⟩
theorem q_load31 (ev : Operand → Value) (o : Oper) (w : World) (x : Operand) (p : Nat) {a b c : Option Addr} {i j k l m n : Nat} (h : o.op = .load 27 x) (hx : ev x = .pointer (some ⟨p, 0, none⟩)) (h0 : w.cell? ⟨p, 0, none⟩ = some (.slice a i j)) (h1 : w.cell? ⟨p, 1, none⟩ = some (.slice b k l)) (h2 : w.cell? ⟨p, 2, none⟩ = some (.slice c m n)) : (execOp ev o).run Try.prog w = .ok (.value (.agg #[.slice a i j, .slice b k l, .slice c m n])) w := by
  simp [execOp, h, hx]
  go_simp
theorem q_load25 (ev : Operand → Value) (o : Oper) (w : World) (x : Operand) (p : Nat) {a b c : Option Addr} {i j k l m n : Nat} (h : o.op = .load 42 x) (hx : ev x = .pointer (some ⟨p, 0, none⟩)) (h0 : w.cell? ⟨p, 0, none⟩ = some (.slice a i j)) (h1 : w.cell? ⟨p, 1, none⟩ = some (.slice b k l)) (h2 : w.cell? ⟨p, 2, none⟩ = some (.slice c m n)) : (execOp ev o).run Try.prog w = .ok (.value (.agg #[.slice a i j, .slice b k l, .slice c m n])) w := by
  simp [execOp, h, hx]
  go_simp
theorem q_notI (ev : Operand → Value) (o : Oper) (w : World) (x : Operand) (b : Bool) (h : o.op = .unOp .not 4 x) (hx : ev x = .bool b) : (execOp ev o).run Try.prog w = .ok (.value (.bool (!b))) w := by
  simp [execOp, h, hx]
  go_simp
def dsQ : List Nat := [27, 28, 29, 30, 31]
def slotQ (j : Nat) : Nat := dsQ.getD j 0
theorem slotQ_inj (i j : Nat) (hi : i < 5) (hj : j < 5) (q : slotQ i = slotQ j) : i = j := by
  have h : ∀ i : Fin 5, ∀ j : Fin 5, slotQ i.val = slotQ j.val → i.val = j.val := by decide
  exact h ⟨i, hi⟩ ⟨j, hj⟩ q
theorem slotQ_mem (i : Nat) (hi : i < 5) : slotQ i ∈ dsQ := by
  have h : ∀ i : Fin 5, slotQ i.val ∈ dsQ := by decide
  exact h ⟨i, hi⟩
def QF (x y : Value) (L S : List Fl) (O : List Dop) : Nat → Value → World → Prop
  | 0, v, _ => v = x
  | 1, v, _ => v = y
  | 2, v, w => ∃ u1 u2 u3, v = .agg #[u1, u2, u3] ∧ RdF w u1 L ∧ RdF w u2 S ∧ RdO w u3 O
  | 3, v, _ => v = .bool true
  | 4, v, _ => v = .bool false
  | _, _, _ => True
theorem QF.below {x y : Value} {L S : List Fl} {O : List Dop} {j : Nat} {v : Value} {w w' : World} (h : QF x y L S O j v w) (hB : Below w.heap.size w w') : QF x y L S O j v w' := by
  match j, h with
  | 0, h => exact h
  | 1, h => exact h
  | 2, h =>
    obtain ⟨u1, u2, u3, e, h1, h2, h3⟩ := h
    exact ⟨u1, u2, u3, e, h1.below hB, h2.below hB, h3.below hB⟩
  | 3, h => exact h
  | 4, h => exact h
  | (m + 5), _ => trivial

end Go.Proofs.Ytbohaefmokbgbaa
