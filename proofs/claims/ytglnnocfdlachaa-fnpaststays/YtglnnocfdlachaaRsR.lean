/-
  A copy of a roster, as the specification makes it, in whatever order. No condition but that the slices read.
-/
import Derived.Test.YtglnnocfdlachaaRsD
import Derived.Test.YtglnnocfdlachaaReg2
namespace Go.Proofs.Ytglnnocfdlachaa
open Go.RowKit
set_option linter.unusedVariables false

theorem wpOp_run {P : Program} {ops : Array Oper} {Q : Exit → Act → World → Prop} {i : Nat} {o : Oper} {K : Act → World → Prop} {t : Act} {w w' : World} {v : Value} (ho : ops[i]? = some o) (hg : o.guard = none) (hrun : (execOp t.eval o).run P w = .ok (.value v) w') (h : K (t.put o.dst v) w') : wpOp P ops Q i K t w := by
  refine wpOp_step ho fun K' hK => ?_
  rw [if_pos (by simp [Region.wanted, hg])]
  unfold Oper.wp
  rw [hrun]
  exact hK _ _ h
theorem wpOp_skip {P : Program} {ops : Array Oper} {Q : Exit → Act → World → Prop} {i : Nat} {o : Oper} {K : Act → World → Prop} {t : Act} {w w' : World} (ho : ops[i]? = some o) (hg : o.guard = none) (hrun : (execOp t.eval o).run P w = .ok .skip w') (h : K (t.put o.dst undef) w') : wpOp P ops Q i K t w := by
  refine wpOp_step ho fun K' hK => ?_
  rw [if_pos (by simp [Region.wanted, hg])]
  unfold Oper.wp
  rw [hrun]
  exact hK _ _ h

section
variable (ev : Operand → Value) (o : Oper) (w : World)
theorem r_empty (h : o.op = .buildSlice 39 0 #[]) : (execOp ev o).run Try.prog w = .ok (.value (.slice (some ⟨w.heap.size, 0, none⟩) 0 0)) (w.alloc (.cells #[] 2)) := by
  simp [execOp, h]
  go_simp
theorem r_field (x : Operand) (i k : Nat) (hi : i < 2) (h : o.op = .fieldAddr 41 x i) (hx : ev x = .pointer (some ⟨k, 0, none⟩)) : (execOp ev o).run Try.prog w = .ok (.value (.pointer (some ⟨k, i, none⟩))) w := by
  have hi' : i = 0 ∨ i = 1 := by omega
  rcases hi' with rfl | rfl
  · simp [execOp, h, hx]
    go_simp
  · simp [execOp, h, hx]
    go_simp
theorem r_loadS (x : Operand) (k i : Nat) (a : Option Addr) (n c : Nat) (h : o.op = .load 39 x) (hx : ev x = .pointer (some ⟨k, i, none⟩)) (hc : w.cell? ⟨k, i, none⟩ = some (.slice a n c)) : (execOp ev o).run Try.prog w = .ok (.value (.slice a n c)) w := by
  simp [execOp, h, hx]
  go_simp
theorem r_append (s x : Operand) (v v' : Value) (g : Nat) (w' : World) (h : o.op = .call { callee := .builtin .append, args := #[s, x], argTypes := #[39, 39] }) (hs : ev s = .slice (some ⟨g, 0, none⟩) 0 0) (hx : ev x = v) (hr : (Builtin.append_ #[39, 39] o.type #[.slice (some ⟨g, 0, none⟩) 0 0, v]).run Try.prog w = .ok v' w') : (execOp ev o).run Try.prog w = .ok (.value v') w' := by
  simp [execOp, h, resolve, invoke, builtin, hs, hx, hr, Result.andThen]
theorem r_buildR (x0 x1 : Operand) (a b : Option Addr) (n c m d : Nat) (h : o.op = .build 41 #[(0, x0), (1, x1)]) (h0 : ev x0 = .slice a n c) (h1 : ev x1 = .slice b m d) : (execOp ev o).run Try.prog w = .ok (.value (.agg #[.slice a n c, .slice b m d])) w := by
  simp [execOp, h, h0, h1]
  go_simp
theorem r_allocR (h : o.op = .alloc 41) : (execOp ev o).run Try.prog w = .ok (.value (.pointer (some ⟨w.heap.size, 0, none⟩))) (w.alloc (.cells #[.slice none 0 0, .slice none 0 0] 41)) := by
  simp [execOp, h]
  go_simp
theorem r_storeR (x y : Operand) (k : Nat) (p q : Value) (a b : Option Addr) (n c m d : Nat) (h : o.op = .store 41 x y) (hx : ev x = .pointer (some ⟨k, 0, none⟩)) (hy : ev y = .agg #[.slice a n c, .slice b m d]) (hb : w.heap[k]? = some (.cells #[p, q] 41 (0, 0))) :
    (execOp ev o).run Try.prog w = .ok .skip ((w.setCell ⟨k, 0, none⟩ (.slice a n c)).setCell ⟨k, 1, none⟩ (.slice b m d)) := by
  have c0 : w.cell? ⟨k, 0, none⟩ = some p := cellN hb
  have c1 : w.cell? ⟨k, 1, none⟩ = some q := cellN hb
  have f0 : w.frozen? ⟨k, 0, none⟩ = false := frozN hb
  have f1 : w.frozen? ⟨k, 1, none⟩ = false := frozN hb
  simp [execOp, h, hx, hy]
  go_simp
end

theorem OwnI.set {w : World} {base : Nat} {v : Value} {L : List Int} (h : OwnI w base v L) {k : Nat} {cs : Array Value} (hb : w.heap[k]? = some (.cells cs 41 (0, 0))) (o : Nat) (u : Value) : OwnI (w.setCell ⟨k, o, none⟩ u) base v L := by
  obtain ⟨h1, h2⟩ := h
  refine ⟨h1, ?_⟩
  rcases h2 with h2 | ⟨g, cap, cur, hv, hb', hh, r⟩
  · exact .inl h2
  · refine .inr ⟨g, cap, cur, hv, hb', ?_, r⟩
    rw [Below.heap_setCell _ _ _ _ (show g ≠ k from fun e => by subst e; rw [hb] at hh; simp at hh)]
    exact hh
theorem OwnI.slice {w : World} {base : Nat} {v : Value} {L : List Int} (h : OwnI w base v L) : ∃ a c, v = .slice a L.length c := by
  obtain ⟨a, c, e, _⟩ := h.rd
  exact ⟨a, c, e⟩

/-- the slots of the copy -/
def slotsR : List Nat := [50, 51, 52, 53, 54, 55, 56, 57, 58, 11]
def slotR (j : Nat) : Nat := if j = 9 then 11 else 50 + j
section
variable (X : World) (base P : Nat) (vM vA : Value) (M A : List Int)
def FactR (j : Nat) (v : Value) (w : World) : Prop :=
  if j = 0 ∨ j = 4 then ∃ g, v = .slice (some ⟨g, 0, none⟩) 0 0 ∧ OwnI w base v []
  else if j = 1 then v = .pointer (some ⟨P, 0, none⟩)
  else if j = 5 then v = .pointer (some ⟨P, 1, none⟩)
  else if j = 2 then v = vM
  else if j = 6 then v = vA
  else if j = 3 then OwnI w base v M
  else if j = 7 then OwnI w base v A
  else if j = 8 then ∃ x y, v = .agg #[x, y] ∧ OwnI w base x M ∧ OwnI w base y A
  else ∃ k x y, v = .pointer (some ⟨k, 0, none⟩) ∧ X.heap.size ≤ k ∧ w.heap[k]? = some (.cells #[x, y] 41 (0, 0))
/-- the copy stands in a block of its own -/
def DoneR (v : Value) (w : World) : Prop := ∃ k x y, v = .pointer (some ⟨k, 0, none⟩) ∧ X.heap.size ≤ k ∧ w.heap[k]? = some (.cells #[x, y] 41 (0, 0)) ∧ OwnI w base x M ∧ OwnI w base y A
structure RR (a0 : Act) (l : Nat → Bool) (t : Act) (w : World) : Prop where
  bel : Below X.heap.size X w
  form : ∃ f : Nat → Value, t = canon a0 slotsR f ∧ (∀ j, j < 10 → l j = true → FactR X base P vM vA M A j (f (slotR j)) w) ∧ (l 10 = true → DoneR X base M A (f 11) w)
end
section
variable {X : World} {base P : Nat} {vM vA : Value} {M A : List Int}
theorem FactR.below {j : Nat} {v : Value} {w w' : World} (h : FactR X base P vM vA M A j v w) (hB : Below w.heap.size w w') : FactR X base P vM vA M A j v w' := by
  unfold FactR at h ⊢
  by_cases q0 : j = 0 ∨ j = 4
  · rw [if_pos q0] at h ⊢; obtain ⟨g, e, ho⟩ := h; exact ⟨g, e, ho.below hB⟩
  rw [if_neg q0] at h ⊢
  by_cases q1 : j = 1
  · rw [if_pos q1] at h ⊢; exact h
  rw [if_neg q1] at h ⊢
  by_cases q2 : j = 5
  · rw [if_pos q2] at h ⊢; exact h
  rw [if_neg q2] at h ⊢
  by_cases q3 : j = 2
  · rw [if_pos q3] at h ⊢; exact h
  rw [if_neg q3] at h ⊢
  by_cases q4 : j = 6
  · rw [if_pos q4] at h ⊢; exact h
  rw [if_neg q4] at h ⊢
  by_cases q5 : j = 3
  · rw [if_pos q5] at h ⊢; exact h.below hB
  rw [if_neg q5] at h ⊢
  by_cases q6 : j = 7
  · rw [if_pos q6] at h ⊢; exact h.below hB
  rw [if_neg q6] at h ⊢
  by_cases q7 : j = 8
  · rw [if_pos q7] at h ⊢; obtain ⟨x, y, e, h1, h2⟩ := h; exact ⟨x, y, e, h1.below hB, h2.below hB⟩
  rw [if_neg q7] at h ⊢
  obtain ⟨k, x, y, e, h1, h2⟩ := h
  exact ⟨k, x, y, e, h1, (hB.block k (lt_of_block h2)).trans h2⟩
theorem DoneR.below {v : Value} {w w' : World} (h : DoneR X base M A v w) (hB : Below w.heap.size w w') : DoneR X base M A v w' := by
  obtain ⟨k, x, y, e, h1, h2, h3, h4⟩ := h
  exact ⟨k, x, y, e, h1, (hB.block k (lt_of_block h2)).trans h2, h3.below hB, h4.below hB⟩
theorem RR.step {a0 : Act} {l : Nat → Bool} {t : Act} {w w' : World} (h : RR X base P vM vA M A a0 l t w) (i d : Nat) (hd : slotR i = d) (hi : i < 10) (hl : l 10 = false) (v : Value) (hB : Below w.heap.size w w') (hv : FactR X base P vM vA M A i v w') :
    RR X base P vM vA M A a0 (fun j => l j || j == i) (t.put (some d) v) w' := by
  subst hd
  obtain ⟨f, rfl, hf, _⟩ := h.form
  have hm : slotR i ∈ slotsR := by
    have : i = 0 ∨ i = 1 ∨ i = 2 ∨ i = 3 ∨ i = 4 ∨ i = 5 ∨ i = 6 ∨ i = 7 ∨ i = 8 ∨ i = 9 := by omega
    rcases this with rfl | rfl | rfl | rfl | rfl | rfl | rfl | rfl | rfl | rfl <;> decide
  refine ⟨h.bel.trans (hB.mono h.bel.size), _, canon_put a0 slotsR f (slotR i) v hm, fun j hj hlj => ?_, fun h10 => ?_⟩
  · by_cases e : j = i
    · subst e; rw [if_pos rfl]; exact hv
    · have hne : slotR j ≠ slotR i := by unfold slotR; split <;> split <;> omega
      have hl' : l j = true := by
        have : (j == i) = false := by simpa using e
        simpa [this] using hlj
      rw [if_neg hne]
      exact (hf j hj hl').below hB
  · have : (10 == i) = false := by simp; omega
    simp [hl, this] at h10
theorem RR.get {a0 : Act} {l : Nat → Bool} {t : Act} {w : World} (h : RR X base P vM vA M A a0 l t w) (hs : 58 < a0.tmps.size) (j : Nat) (hj : j < 10) (hl : l j = true) : FactR X base P vM vA M A j (t.eval (.tmp (slotR j))) w := by
  obtain ⟨f, rfl, hf, _⟩ := h.form
  have hm : slotR j ∈ slotsR ∧ slotR j < a0.tmps.size := by
    have : j = 0 ∨ j = 1 ∨ j = 2 ∨ j = 3 ∨ j = 4 ∨ j = 5 ∨ j = 6 ∨ j = 7 ∨ j = 8 ∨ j = 9 := by omega
    refine ⟨?_, by unfold slotR; split <;> omega⟩
    rcases this with rfl | rfl | rfl | rfl | rfl | rfl | rfl | rfl | rfl | rfl <;> decide
  rw [canon_eval a0 slotsR f _ hm.1 hm.2]
  exact hf j hj hl
theorem RR.other {a0 : Act} {l : Nat → Bool} {t : Act} {w : World} (h : RR X base P vM vA M A a0 l t w) (d : Nat) (hd : d ∉ slotsR) : t.eval (.tmp d) = a0.eval (.tmp d) := by
  obtain ⟨f, rfl, _, _⟩ := h.form
  exact canon_eval_ne a0 slotsR f d hd
theorem FactR.e04 {j : Nat} {v : Value} {w : World} (hj : j = 0 ∨ j = 4) : FactR X base P vM vA M A j v w = (∃ g, v = .slice (some ⟨g, 0, none⟩) 0 0 ∧ OwnI w base v []) := by unfold FactR; rw [if_pos hj]
theorem FactR.e1 {v : Value} {w : World} : FactR X base P vM vA M A 1 v w = (v = .pointer (some ⟨P, 0, none⟩)) := by simp [FactR]
theorem FactR.e5 {v : Value} {w : World} : FactR X base P vM vA M A 5 v w = (v = .pointer (some ⟨P, 1, none⟩)) := by simp [FactR]
theorem FactR.e2 {v : Value} {w : World} : FactR X base P vM vA M A 2 v w = (v = vM) := by simp [FactR]
theorem FactR.e6 {v : Value} {w : World} : FactR X base P vM vA M A 6 v w = (v = vA) := by simp [FactR]
theorem FactR.e3 {v : Value} {w : World} : FactR X base P vM vA M A 3 v w = OwnI w base v M := by simp [FactR]
theorem FactR.e7 {v : Value} {w : World} : FactR X base P vM vA M A 7 v w = OwnI w base v A := by simp [FactR]
theorem FactR.e8 {v : Value} {w : World} : FactR X base P vM vA M A 8 v w = (∃ x y, v = .agg #[x, y] ∧ OwnI w base x M ∧ OwnI w base y A) := by simp [FactR]
theorem FactR.e9 {v : Value} {w : World} : FactR X base P vM vA M A 9 v w = (∃ k x y, v = .pointer (some ⟨k, 0, none⟩) ∧ X.heap.size ≤ k ∧ w.heap[k]? = some (.cells #[x, y] 41 (0, 0))) := by simp [FactR]
theorem set2_same {w : World} {k : Nat} {p q : Value} (p' q' : Value) (hb : w.heap[k]? = some (.cells #[p, q] 41 (0, 0))) :
    ((w.setCell ⟨k, 0, none⟩ p').setCell ⟨k, 1, none⟩ q').heap[k]? = some (.cells #[p', q'] 41 (0, 0)) := by
  have e0 := heap_setCell_same w k 0 _ 41 p' hb
  have e1 := heap_setCell_same _ k 1 _ 41 q' e0
  rw [e1]; rfl
theorem OwnI.set2 {w : World} {base : Nat} {v : Value} {L : List Int} (h : OwnI w base v L) {k : Nat} {p q : Value} (p' q' : Value) (hb : w.heap[k]? = some (.cells #[p, q] 41 (0, 0))) : OwnI ((w.setCell ⟨k, 0, none⟩ p').setCell ⟨k, 1, none⟩ q') base v L :=
  (h.set hb 0 p').set (heap_setCell_same w k 0 _ 41 p' hb) 1 q'
theorem RR.store {a0 : Act} {l : Nat → Bool} {t : Act} {w : World} (h : RR X base P vM vA M A a0 l t w) (hs : 58 < a0.tmps.size) (hall : ∀ j, j < 10 → l j = true) (k : Nat) (p q x y : Value) (ht : t.eval (.tmp 11) = .pointer (some ⟨k, 0, none⟩)) (hk : X.heap.size ≤ k) (hb : w.heap[k]? = some (.cells #[p, q] 41 (0, 0))) (hx : OwnI w base x M) (hy : OwnI w base y A) :
    RR X base P vM vA M A a0 (fun j => l j || j == 10) (t.put none undef) ((w.setCell ⟨k, 0, none⟩ x).setCell ⟨k, 1, none⟩ y) := by
  obtain ⟨f, rfl, hf, _⟩ := h.form
  have e11 : f 11 = .pointer (some ⟨k, 0, none⟩) := (canon_eval a0 slotsR f 11 (by decide) (by omega)).symm.trans ht
  refine ⟨(h.bel.setCell (p := ⟨k, 0, none⟩) hk _).setCell (p := ⟨k, 1, none⟩) hk _, f, rfl, fun j hj _ => ?_, fun _ => ⟨k, x, y, e11, hk, set2_same x y hb, hx.set2 x y hb, hy.set2 x y hb⟩⟩
  have g := hf j hj (hall j hj)
  unfold FactR at g ⊢
  by_cases q0 : j = 0 ∨ j = 4
  · rw [if_pos q0] at g ⊢; obtain ⟨g', e, ho⟩ := g; exact ⟨g', e, ho.set2 x y hb⟩
  rw [if_neg q0] at g ⊢
  by_cases q1 : j = 1
  · rw [if_pos q1] at g ⊢; exact g
  rw [if_neg q1] at g ⊢
  by_cases q2 : j = 5
  · rw [if_pos q2] at g ⊢; exact g
  rw [if_neg q2] at g ⊢
  by_cases q3 : j = 2
  · rw [if_pos q3] at g ⊢; exact g
  rw [if_neg q3] at g ⊢
  by_cases q4 : j = 6
  · rw [if_pos q4] at g ⊢; exact g
  rw [if_neg q4] at g ⊢
  by_cases q5 : j = 3
  · rw [if_pos q5] at g ⊢; exact g.set2 x y hb
  rw [if_neg q5] at g ⊢
  by_cases q6 : j = 7
  · rw [if_pos q6] at g ⊢; exact g.set2 x y hb
  rw [if_neg q6] at g ⊢
  by_cases q7 : j = 8
  · rw [if_pos q7] at g ⊢; obtain ⟨x', y', e, h1, h2⟩ := g; exact ⟨x', y', e, h1.set2 x y hb, h2.set2 x y hb⟩
  rw [if_neg q7] at g ⊢
  obtain ⟨k', x', y', e, h1, h2⟩ := g
  by_cases ek : k' = k
  · subst ek; exact ⟨k', x, y, e, h1, set2_same x y hb⟩
  · exact ⟨k', x', y', e, h1, by rw [Below.heap_setCell _ _ _ _ ek, Below.heap_setCell _ _ _ _ ek]; exact h2⟩
end
end Go.Proofs.Ytglnnocfdlachaa
