/-
  Regions of the law FnExactDo. No condition.
-/
import Derived.Test.YtdlkokdhbffhpaaDkDi
import Derived.Test.YtdlkokdhbffhpaaRegN
import Derived.Test.YtdlkokdhbffhpaaDkZ2
namespace Go.Proofs.Ytdlkokdhbffhpaa
open Go.RowKit
set_option linter.unusedVariables false

theorem OwD.off {w w' : World} {base : Nat} {x y z : Value} {a b c g : Nat} {cs : Array Value} (h : OwD w base x y z a b c) (hg : w.heap[g]? = some (.cells cs 30 (0, 0))) (hk : ∀ k, k ≠ g → w'.heap[k]? = w.heap[k]?) : OwD w' base x y z a b c := by
  have n2 : ∀ (v : Value) (n : Nat), OwA2 w base v n → ∀ k, v.ownBlock = some k → k ≠ g := fun v n hv k hk' e => by
    obtain ⟨c', hc'⟩ := hv.cells hk'
    rw [e, hg] at hc'
    cases hc'
  have n4 : ∀ (v : Value) (n : Nat), OwA4 w base v n → ∀ k, v.ownBlock = some k → k ≠ g := fun v n hv k hk' e => by
    obtain ⟨c', hc'⟩ := hv.cells hk'
    rw [e, hg] at hc'
    cases hc'
  exact ⟨h.l.blk (fun k hk' => hk k (n2 _ _ h.l k hk')), h.s.blk (fun k hk' => hk k (n2 _ _ h.s k hk')), h.o.blk (fun k hk' => hk k (n4 _ _ h.o k hk')), h.ap⟩
theorem q_loadOpL (ev : Operand → Value) (o' : Oper) (w : World) (x : Operand) (p : Nat) (o : Dop) (h : o'.op = .load 37 x) (hx : ev x = .pointer (some ⟨p, 0, none⟩)) (hb : w.heap[p]? = some (.cells #[.int .i64 o.k, .string o.n, .string o.t, .string o.d] 37 (0, 0))) : (execOp ev o').run Try.prog w = .ok (.value (.agg #[.int .i64 o.k, .string o.n, .string o.t, .string o.d])) w := by
  have e0 : w.cell? ⟨p, 0, none⟩ = some (.int .i64 o.k) := cellN hb
  have e1 : w.cell? ⟨p, 1, none⟩ = some (.string o.n) := cellN hb
  have e2 : w.cell? ⟨p, 2, none⟩ = some (.string o.t) := cellN hb
  have e3 : w.cell? ⟨p, 3, none⟩ = some (.string o.d) := cellN hb
  simp [execOp, h, hx]
  go_simp
theorem q_ext0 (ev : Operand → Value) (o : Oper) (w : World) (x : Operand) (a b : Value) (h : o.op = .extract x 0) (hx : ev x = .tuple #[a, b]) : (execOp ev o).run Try.prog w = .ok (.value a) w := by
  simp [execOp, h, hx]
  go_simp
theorem q_ext1 (ev : Operand → Value) (o : Oper) (w : World) (x : Operand) (a b : Value) (h : o.op = .extract x 1) (hx : ev x = .tuple #[a, b]) : (execOp ev o).run Try.prog w = .ok (.value b) w := by
  simp [execOp, h, hx]
  go_simp
theorem q_allocD (ev : Operand → Value) (o : Oper) (w : World) (h : o.op = .alloc 30) : (execOp ev o).run Try.prog w = .ok (.value (.pointer (some ⟨w.heap.size, 0, none⟩))) (w.alloc (.cells #[.slice none 0 0, .slice none 0 0, .slice none 0 0] 30)) := by
  simp [execOp, h]
  go_simp
theorem noStr3 (a b c : Option Addr) (i j k l m n : Nat) : ∀ (q : Nat) s, (#[Value.slice a i j, .slice b k l, .slice c m n] : Array Value)[q]? ≠ some (.string s) := fun q s => by
  match q with
  | 0 => simp
  | 1 => simp
  | 2 => simp
  | (k + 3) => simp
theorem put_same (a0 : Act) (ds : List Nat) (f : Nat → Value) (d : Nat) (hd : d ∈ ds) : (canon a0 ds f).put (some d) (f d) = canon a0 ds f := by
  rw [canon_put a0 ds f d (f d) hd]
  congr 1
  funext x
  by_cases h : x = d
  · rw [if_pos h, h]
  · rw [if_neg h]
theorem At3.apart {w : World} {b base : Nat} {p q r x y z : Value} {i j k : Nat} (h : At3 w b 30 p q r) (ho : OwD w base x y z i j k) : ∀ n, x.ownBlock = some n ∨ y.ownBlock = some n ∨ z.ownBlock = some n → n ≠ b := fun n hn e => by
  unfold At3 at h
  rcases hn with hn | hn | hn
  · obtain ⟨c, hc⟩ := ho.l.cells hn; rw [e, h] at hc; cases hc
  · obtain ⟨c, hc⟩ := ho.s.cells hn; rw [e, h] at hc; cases hc
  · obtain ⟨c, hc⟩ := ho.o.cells hn; rw [e, h] at hc; cases hc
def dsK1 : List Nat := [27, 28, 29, 30, 31, 26, 32, 33, 6, 0, 7]
def slotK1 (j : Nat) : Nat := dsK1.getD j 0
theorem slotK1_inj (i j : Nat) (hi : i < 11) (hj : j < 11) (q : slotK1 i = slotK1 j) : i = j := by
  have h : ∀ i : Fin 11, ∀ j : Fin 11, slotK1 i.val = slotK1 j.val → i.val = j.val := by decide
  exact h ⟨i, hi⟩ ⟨j, hj⟩ q
theorem slotK1_mem (i : Nat) (hi : i < 11) : slotK1 i ∈ dsK1 := by
  have h : ∀ i : Fin 11, slotK1 i.val ∈ dsK1 := by decide
  exact h ⟨i, hi⟩
def K1F (base C : Nat) (V : Value) (L S : List Fl) (O : List Dop) (o : Dop) (AL AS : List Fl) (AO : List Dop) : Nat → (Nat → Value) → World → Prop
  | 0, f, w => f 27 = V
  | 1, f, w => ∃ y1 y2 y3 : Nat, f 28 = .agg #[.slice (some ⟨y1, 0, none⟩) L.length L.length, .slice (some ⟨y2, 0, none⟩) S.length S.length, .slice (some ⟨y3, 0, none⟩) O.length O.length] ∧ RdD w (.slice (some ⟨y1, 0, none⟩) L.length L.length) (.slice (some ⟨y2, 0, none⟩) S.length S.length) (.slice (some ⟨y3, 0, none⟩) O.length O.length) L S O
  | 2, f, w => f 29 = .agg #[.int .i64 o.k, .string o.n, .string o.t, .string o.d]
  | 3, f, w => f 30 = .agg #[.int .i64 o.k, .string o.n, .string o.t, .string o.d]
  | 4, f, w => ∃ x y z, f 31 = .tuple #[.agg #[x, y, z], .int .i64 (C : Int)] ∧ RdD w x y z AL AS AO
  | 5, f, w => ∃ x y z, f 26 = .tuple #[.agg #[x, y, z], .int .i64 (C : Int)] ∧ RdD w x y z AL AS AO
  | 6, f, w => ∃ x y z, f 32 = .agg #[x, y, z] ∧ RdD w x y z AL AS AO
  | 7, f, w => f 33 = .int .i64 (C : Int)
  | 8, f, w => ∃ g cs, f 6 = .pointer (some ⟨g, 0, none⟩) ∧ base ≤ g ∧ cs.size = 3 ∧ (∀ (i : Nat) s, cs[i]? ≠ some (Value.string s)) ∧ w.heap[g]? = some (.cells cs 30 (0, 0))
  | 9, f, w => ∃ g x y z, f 6 = .pointer (some ⟨g, 0, none⟩) ∧ f 32 = .agg #[x, y, z] ∧ w.heap[g]? = some (.cells #[x, y, z] 30 (0, 0))
  | 10, f, w => f 7 = .int .i64 (C : Int)
  | _, _, _ => True
theorem K1F.below {base C : Nat} {V : Value} {L S : List Fl} {O : List Dop} {o : Dop} {AL AS : List Fl} {AO : List Dop} {j : Nat} {f : Nat → Value} {w w' : World} (h : K1F base C V L S O o AL AS AO j f w) (hB : Below w.heap.size w w') : K1F base C V L S O o AL AS AO j f w' := by
  match j, h with
  | 0, h => exact h
  | 1, h => exact (by obtain ⟨y1, y2, y3, e, h1⟩ := h; exact ⟨y1, y2, y3, e, h1.below hB⟩)
  | 2, h => exact h
  | 3, h => exact h
  | 4, h => exact (by obtain ⟨x, y, z, e, h1⟩ := h; exact ⟨x, y, z, e, h1.below hB⟩)
  | 5, h => exact (by obtain ⟨x, y, z, e, h1⟩ := h; exact ⟨x, y, z, e, h1.below hB⟩)
  | 6, h => exact (by obtain ⟨x, y, z, e, h1⟩ := h; exact ⟨x, y, z, e, h1.below hB⟩)
  | 7, h => exact h
  | 8, h => exact (by obtain ⟨g, cs, e, hb, hc, hn, hh⟩ := h; exact ⟨g, cs, e, hb, hc, hn, (hB.block _ (lt_of_block hh)).trans hh⟩)
  | 9, h => exact (by obtain ⟨g, x, y, z, e, e2, hh⟩ := h; exact ⟨g, x, y, z, e, e2, (hB.block _ (lt_of_block hh)).trans hh⟩)
  | 10, h => exact h
  | (m + 11), _ => exact trivial
theorem K1F.put {base C : Nat} {V : Value} {L S : List Fl} {O : List Dop} {o : Dop} {AL AS : List Fl} {AO : List Dop} {j : Nat} {f : Nat → Value} {w w' : World} {g : Nat} {cs cs' : Array Value} (hj : j ≠ 9) (hal : f 6 = .pointer (some ⟨g, 0, none⟩)) (hg : w.heap[g]? = some (.cells cs 30 (0, 0))) (hn : ∀ (i : Nat) s, cs[i]? ≠ some (Value.string s)) (hg' : w'.heap[g]? = some (.cells cs' 30 (0, 0))) (hc' : cs'.size = 3) (hn' : ∀ (i : Nat) s, cs'[i]? ≠ some (Value.string s)) (hk : ∀ k, k ≠ g → w'.heap[k]? = w.heap[k]?) (hs : w.heap.size ≤ w'.heap.size) (h : K1F base C V L S O o AL AS AO j f w) : K1F base C V L S O o AL AS AO j f w' := by
  match j, h with
  | 0, h => exact h
  | 1, h => exact (by obtain ⟨y1, y2, y3, e, h1⟩ := h; exact ⟨y1, y2, y3, e, ⟨h1.1.far hs hg hn hk, h1.2.1.far hs hg hn hk, h1.2.2.far hs hg hn hk⟩⟩)
  | 2, h => exact h
  | 3, h => exact h
  | 4, h => exact (by obtain ⟨x, y, z, e, h1⟩ := h; exact ⟨x, y, z, e, ⟨h1.1.far hs hg hn hk, h1.2.1.far hs hg hn hk, h1.2.2.far hs hg hn hk⟩⟩)
  | 5, h => exact (by obtain ⟨x, y, z, e, h1⟩ := h; exact ⟨x, y, z, e, ⟨h1.1.far hs hg hn hk, h1.2.1.far hs hg hn hk, h1.2.2.far hs hg hn hk⟩⟩)
  | 6, h => exact (by obtain ⟨x, y, z, e, h1⟩ := h; exact ⟨x, y, z, e, ⟨h1.1.far hs hg hn hk, h1.2.1.far hs hg hn hk, h1.2.2.far hs hg hn hk⟩⟩)
  | 7, h => exact h
  | 8, h => exact (by obtain ⟨g2, cs2, e, hb, _, _, _⟩ := h; rw [hal] at e; simp only [Value.pointer.injEq, Option.some.injEq, Addr.mk.injEq] at e; obtain ⟨rfl, _⟩ := e; exact ⟨g, cs', hal, hb, hc', hn', hg'⟩)
  | 9, _ => exact absurd rfl hj
  | 10, h => exact h
  | (m + 11), _ => exact trivial
def depK1 (j i : Nat) : Bool := match j with
  | 0 => i == 0
  | 1 => i == 1
  | 2 => i == 2
  | 3 => i == 3
  | 4 => i == 4
  | 5 => i == 5
  | 6 => i == 6
  | 7 => i == 7
  | 8 => i == 8
  | 9 => i == 9 || i == 8 || i == 6
  | 10 => i == 10
  | _ => false
theorem K1F.dep {base C : Nat} {V : Value} {L S : List Fl} {O : List Dop} {o : Dop} {AL AS : List Fl} {AO : List Dop} {j : Nat} {f f' : Nat → Value} {w : World} (hj : j < 11) (h : K1F base C V L S O o AL AS AO j f w) (he : ∀ i, depK1 j i = true → f (slotK1 i) = f' (slotK1 i)) : K1F base C V L S O o AL AS AO j f' w := by
  match j, hj, h, he with
  | 0, _, h, he =>
    have e0 : f 27 = f' 27 := he 0 rfl
    simp only [K1F] at h ⊢
    rw [← e0]
    exact h
  | 1, _, h, he =>
    have e1 : f 28 = f' 28 := he 1 rfl
    simp only [K1F] at h ⊢
    rw [← e1]
    exact h
  | 2, _, h, he =>
    have e2 : f 29 = f' 29 := he 2 rfl
    simp only [K1F] at h ⊢
    rw [← e2]
    exact h
  | 3, _, h, he =>
    have e3 : f 30 = f' 30 := he 3 rfl
    simp only [K1F] at h ⊢
    rw [← e3]
    exact h
  | 4, _, h, he =>
    have e4 : f 31 = f' 31 := he 4 rfl
    simp only [K1F] at h ⊢
    rw [← e4]
    exact h
  | 5, _, h, he =>
    have e5 : f 26 = f' 26 := he 5 rfl
    simp only [K1F] at h ⊢
    rw [← e5]
    exact h
  | 6, _, h, he =>
    have e6 : f 32 = f' 32 := he 6 rfl
    simp only [K1F] at h ⊢
    rw [← e6]
    exact h
  | 7, _, h, he =>
    have e7 : f 33 = f' 33 := he 7 rfl
    simp only [K1F] at h ⊢
    rw [← e7]
    exact h
  | 8, _, h, he =>
    have e8 : f 6 = f' 6 := he 8 rfl
    simp only [K1F] at h ⊢
    rw [← e8]
    exact h
  | 9, _, h, he =>
    have e8 : f 6 = f' 6 := he 8 rfl
    have e6 : f 32 = f' 32 := he 6 rfl
    simp only [K1F] at h ⊢
    rw [← e8, ← e6]
    exact h
  | 10, _, h, he =>
    have e10 : f 7 = f' 7 := he 10 rfl
    simp only [K1F] at h ⊢
    rw [← e10]
    exact h
  | (m + 11), hj, _, _ => exact absurd hj (by omega)
def dsK2 : List Nat := [37, 38, 39, 40, 36, 41, 42, 9, 0, 10]
def slotK2 (j : Nat) : Nat := dsK2.getD j 0
theorem slotK2_inj (i j : Nat) (hi : i < 10) (hj : j < 10) (q : slotK2 i = slotK2 j) : i = j := by
  have h : ∀ i : Fin 10, ∀ j : Fin 10, slotK2 i.val = slotK2 j.val → i.val = j.val := by decide
  exact h ⟨i, hi⟩ ⟨j, hj⟩ q
theorem slotK2_mem (i : Nat) (hi : i < 10) : slotK2 i ∈ dsK2 := by
  have h : ∀ i : Fin 10, slotK2 i.val ∈ dsK2 := by decide
  exact h ⟨i, hi⟩
def K2F (base C : Nat) (V : Value) (L S : List Fl) (O : List Dop) (o : Dop) (AL AS : List Fl) (AO : List Dop) : Nat → (Nat → Value) → World → Prop
  | 0, f, w => f 37 = V
  | 1, f, w => f 38 = .agg #[.int .i64 o.k, .string o.n, .string o.t, .string o.d]
  | 2, f, w => f 39 = .agg #[.int .i64 o.k, .string o.n, .string o.t, .string o.d]
  | 3, f, w => ∃ x y z, f 40 = .tuple #[.agg #[x, y, z], .int .i64 (C : Int)] ∧ RdD w x y z AL AS AO ∧ OwD w base x y z AL.length AS.length AO.length
  | 4, f, w => ∃ x y z, f 36 = .tuple #[.agg #[x, y, z], .int .i64 (C : Int)] ∧ RdD w x y z AL AS AO ∧ OwD w base x y z AL.length AS.length AO.length
  | 5, f, w => ∃ x y z, f 41 = .agg #[x, y, z] ∧ RdD w x y z AL AS AO ∧ OwD w base x y z AL.length AS.length AO.length
  | 6, f, w => f 42 = .int .i64 (C : Int)
  | 7, f, w => ∃ g cs, f 9 = .pointer (some ⟨g, 0, none⟩) ∧ base ≤ g ∧ cs.size = 3 ∧ (∀ (i : Nat) s, cs[i]? ≠ some (Value.string s)) ∧ w.heap[g]? = some (.cells cs 30 (0, 0))
  | 8, f, w => ∃ g x y z, f 9 = .pointer (some ⟨g, 0, none⟩) ∧ f 41 = .agg #[x, y, z] ∧ w.heap[g]? = some (.cells #[x, y, z] 30 (0, 0))
  | 9, f, w => f 10 = .int .i64 (C : Int)
  | _, _, _ => True
theorem K2F.below {base C : Nat} {V : Value} {L S : List Fl} {O : List Dop} {o : Dop} {AL AS : List Fl} {AO : List Dop} {j : Nat} {f : Nat → Value} {w w' : World} (h : K2F base C V L S O o AL AS AO j f w) (hB : Below w.heap.size w w') : K2F base C V L S O o AL AS AO j f w' := by
  match j, h with
  | 0, h => exact h
  | 1, h => exact h
  | 2, h => exact h
  | 3, h => exact (by obtain ⟨x, y, z, e, h1, h2⟩ := h; exact ⟨x, y, z, e, h1.below hB, h2.below hB⟩)
  | 4, h => exact (by obtain ⟨x, y, z, e, h1, h2⟩ := h; exact ⟨x, y, z, e, h1.below hB, h2.below hB⟩)
  | 5, h => exact (by obtain ⟨x, y, z, e, h1, h2⟩ := h; exact ⟨x, y, z, e, h1.below hB, h2.below hB⟩)
  | 6, h => exact h
  | 7, h => exact (by obtain ⟨g, cs, e, hb, hc, hn, hh⟩ := h; exact ⟨g, cs, e, hb, hc, hn, (hB.block _ (lt_of_block hh)).trans hh⟩)
  | 8, h => exact (by obtain ⟨g, x, y, z, e, e2, hh⟩ := h; exact ⟨g, x, y, z, e, e2, (hB.block _ (lt_of_block hh)).trans hh⟩)
  | 9, h => exact h
  | (m + 10), _ => exact trivial
theorem K2F.put {base C : Nat} {V : Value} {L S : List Fl} {O : List Dop} {o : Dop} {AL AS : List Fl} {AO : List Dop} {j : Nat} {f : Nat → Value} {w w' : World} {g : Nat} {cs cs' : Array Value} (hj : j ≠ 8) (hal : f 9 = .pointer (some ⟨g, 0, none⟩)) (hg : w.heap[g]? = some (.cells cs 30 (0, 0))) (hn : ∀ (i : Nat) s, cs[i]? ≠ some (Value.string s)) (hg' : w'.heap[g]? = some (.cells cs' 30 (0, 0))) (hc' : cs'.size = 3) (hn' : ∀ (i : Nat) s, cs'[i]? ≠ some (Value.string s)) (hk : ∀ k, k ≠ g → w'.heap[k]? = w.heap[k]?) (hs : w.heap.size ≤ w'.heap.size) (h : K2F base C V L S O o AL AS AO j f w) : K2F base C V L S O o AL AS AO j f w' := by
  match j, h with
  | 0, h => exact h
  | 1, h => exact h
  | 2, h => exact h
  | 3, h => exact (by obtain ⟨x, y, z, e, h1, h2⟩ := h; exact ⟨x, y, z, e, ⟨h1.1.far hs hg hn hk, h1.2.1.far hs hg hn hk, h1.2.2.far hs hg hn hk⟩, h2.off hg hk⟩)
  | 4, h => exact (by obtain ⟨x, y, z, e, h1, h2⟩ := h; exact ⟨x, y, z, e, ⟨h1.1.far hs hg hn hk, h1.2.1.far hs hg hn hk, h1.2.2.far hs hg hn hk⟩, h2.off hg hk⟩)
  | 5, h => exact (by obtain ⟨x, y, z, e, h1, h2⟩ := h; exact ⟨x, y, z, e, ⟨h1.1.far hs hg hn hk, h1.2.1.far hs hg hn hk, h1.2.2.far hs hg hn hk⟩, h2.off hg hk⟩)
  | 6, h => exact h
  | 7, h => exact (by obtain ⟨g2, cs2, e, hb, _, _, _⟩ := h; rw [hal] at e; simp only [Value.pointer.injEq, Option.some.injEq, Addr.mk.injEq] at e; obtain ⟨rfl, _⟩ := e; exact ⟨g, cs', hal, hb, hc', hn', hg'⟩)
  | 8, _ => exact absurd rfl hj
  | 9, h => exact h
  | (m + 10), _ => exact trivial
def depK2 (j i : Nat) : Bool := match j with
  | 0 => i == 0
  | 1 => i == 1
  | 2 => i == 2
  | 3 => i == 3
  | 4 => i == 4
  | 5 => i == 5
  | 6 => i == 6
  | 7 => i == 7
  | 8 => i == 8 || i == 7 || i == 5
  | 9 => i == 9
  | _ => false
theorem K2F.dep {base C : Nat} {V : Value} {L S : List Fl} {O : List Dop} {o : Dop} {AL AS : List Fl} {AO : List Dop} {j : Nat} {f f' : Nat → Value} {w : World} (hj : j < 10) (h : K2F base C V L S O o AL AS AO j f w) (he : ∀ i, depK2 j i = true → f (slotK2 i) = f' (slotK2 i)) : K2F base C V L S O o AL AS AO j f' w := by
  match j, hj, h, he with
  | 0, _, h, he =>
    have e0 : f 37 = f' 37 := he 0 rfl
    simp only [K2F] at h ⊢
    rw [← e0]
    exact h
  | 1, _, h, he =>
    have e1 : f 38 = f' 38 := he 1 rfl
    simp only [K2F] at h ⊢
    rw [← e1]
    exact h
  | 2, _, h, he =>
    have e2 : f 39 = f' 39 := he 2 rfl
    simp only [K2F] at h ⊢
    rw [← e2]
    exact h
  | 3, _, h, he =>
    have e3 : f 40 = f' 40 := he 3 rfl
    simp only [K2F] at h ⊢
    rw [← e3]
    exact h
  | 4, _, h, he =>
    have e4 : f 36 = f' 36 := he 4 rfl
    simp only [K2F] at h ⊢
    rw [← e4]
    exact h
  | 5, _, h, he =>
    have e5 : f 41 = f' 41 := he 5 rfl
    simp only [K2F] at h ⊢
    rw [← e5]
    exact h
  | 6, _, h, he =>
    have e6 : f 42 = f' 42 := he 6 rfl
    simp only [K2F] at h ⊢
    rw [← e6]
    exact h
  | 7, _, h, he =>
    have e7 : f 9 = f' 9 := he 7 rfl
    simp only [K2F] at h ⊢
    rw [← e7]
    exact h
  | 8, _, h, he =>
    have e7 : f 9 = f' 9 := he 7 rfl
    have e5 : f 41 = f' 41 := he 5 rfl
    simp only [K2F] at h ⊢
    rw [← e7, ← e5]
    exact h
  | 9, _, h, he =>
    have e9 : f 10 = f' 10 := he 9 rfl
    simp only [K2F] at h ⊢
    rw [← e9]
    exact h
  | (m + 10), hj, _, _ => exact absurd hj (by omega)
def dsK3 : List Nat := [85, 86, 87, 88, 89, 84, 90, 91, 14, 0, 15]
def slotK3 (j : Nat) : Nat := dsK3.getD j 0
theorem slotK3_inj (i j : Nat) (hi : i < 11) (hj : j < 11) (q : slotK3 i = slotK3 j) : i = j := by
  have h : ∀ i : Fin 11, ∀ j : Fin 11, slotK3 i.val = slotK3 j.val → i.val = j.val := by decide
  exact h ⟨i, hi⟩ ⟨j, hj⟩ q
theorem slotK3_mem (i : Nat) (hi : i < 11) : slotK3 i ∈ dsK3 := by
  have h : ∀ i : Fin 11, slotK3 i.val ∈ dsK3 := by decide
  exact h ⟨i, hi⟩
def K3F (base C : Nat) (V : Value) (L S : List Fl) (O : List Dop) (o : Dop) (AL AS : List Fl) (AO : List Dop) : Nat → (Nat → Value) → World → Prop
  | 0, f, w => f 85 = V
  | 1, f, w => ∃ y1 y2 y3 : Nat, f 86 = .agg #[.slice (some ⟨y1, 0, none⟩) L.length L.length, .slice (some ⟨y2, 0, none⟩) S.length S.length, .slice (some ⟨y3, 0, none⟩) O.length O.length] ∧ RdD w (.slice (some ⟨y1, 0, none⟩) L.length L.length) (.slice (some ⟨y2, 0, none⟩) S.length S.length) (.slice (some ⟨y3, 0, none⟩) O.length O.length) L S O
  | 2, f, w => f 87 = .agg #[.int .i64 o.k, .string o.n, .string o.t, .string o.d]
  | 3, f, w => f 88 = .agg #[.int .i64 o.k, .string o.n, .string o.t, .string o.d]
  | 4, f, w => ∃ x y z, f 89 = .tuple #[.agg #[x, y, z], .int .i64 (C : Int)] ∧ RdD w x y z AL AS AO ∧ OwD w base x y z AL.length AS.length AO.length
  | 5, f, w => ∃ x y z, f 84 = .tuple #[.agg #[x, y, z], .int .i64 (C : Int)] ∧ RdD w x y z AL AS AO ∧ OwD w base x y z AL.length AS.length AO.length
  | 6, f, w => ∃ x y z, f 90 = .agg #[x, y, z] ∧ RdD w x y z AL AS AO ∧ OwD w base x y z AL.length AS.length AO.length
  | 7, f, w => f 91 = .int .i64 (C : Int)
  | 8, f, w => ∃ g cs, f 14 = .pointer (some ⟨g, 0, none⟩) ∧ base ≤ g ∧ cs.size = 3 ∧ (∀ (i : Nat) s, cs[i]? ≠ some (Value.string s)) ∧ w.heap[g]? = some (.cells cs 30 (0, 0))
  | 9, f, w => ∃ g x y z, f 14 = .pointer (some ⟨g, 0, none⟩) ∧ f 90 = .agg #[x, y, z] ∧ w.heap[g]? = some (.cells #[x, y, z] 30 (0, 0))
  | 10, f, w => f 15 = .int .i64 (C : Int)
  | _, _, _ => True
theorem K3F.below {base C : Nat} {V : Value} {L S : List Fl} {O : List Dop} {o : Dop} {AL AS : List Fl} {AO : List Dop} {j : Nat} {f : Nat → Value} {w w' : World} (h : K3F base C V L S O o AL AS AO j f w) (hB : Below w.heap.size w w') : K3F base C V L S O o AL AS AO j f w' := by
  match j, h with
  | 0, h => exact h
  | 1, h => exact (by obtain ⟨y1, y2, y3, e, h1⟩ := h; exact ⟨y1, y2, y3, e, h1.below hB⟩)
  | 2, h => exact h
  | 3, h => exact h
  | 4, h => exact (by obtain ⟨x, y, z, e, h1, h2⟩ := h; exact ⟨x, y, z, e, h1.below hB, h2.below hB⟩)
  | 5, h => exact (by obtain ⟨x, y, z, e, h1, h2⟩ := h; exact ⟨x, y, z, e, h1.below hB, h2.below hB⟩)
  | 6, h => exact (by obtain ⟨x, y, z, e, h1, h2⟩ := h; exact ⟨x, y, z, e, h1.below hB, h2.below hB⟩)
  | 7, h => exact h
  | 8, h => exact (by obtain ⟨g, cs, e, hb, hc, hn, hh⟩ := h; exact ⟨g, cs, e, hb, hc, hn, (hB.block _ (lt_of_block hh)).trans hh⟩)
  | 9, h => exact (by obtain ⟨g, x, y, z, e, e2, hh⟩ := h; exact ⟨g, x, y, z, e, e2, (hB.block _ (lt_of_block hh)).trans hh⟩)
  | 10, h => exact h
  | (m + 11), _ => exact trivial
theorem K3F.put {base C : Nat} {V : Value} {L S : List Fl} {O : List Dop} {o : Dop} {AL AS : List Fl} {AO : List Dop} {j : Nat} {f : Nat → Value} {w w' : World} {g : Nat} {cs cs' : Array Value} (hj : j ≠ 9) (hal : f 14 = .pointer (some ⟨g, 0, none⟩)) (hg : w.heap[g]? = some (.cells cs 30 (0, 0))) (hn : ∀ (i : Nat) s, cs[i]? ≠ some (Value.string s)) (hg' : w'.heap[g]? = some (.cells cs' 30 (0, 0))) (hc' : cs'.size = 3) (hn' : ∀ (i : Nat) s, cs'[i]? ≠ some (Value.string s)) (hk : ∀ k, k ≠ g → w'.heap[k]? = w.heap[k]?) (hs : w.heap.size ≤ w'.heap.size) (h : K3F base C V L S O o AL AS AO j f w) : K3F base C V L S O o AL AS AO j f w' := by
  match j, h with
  | 0, h => exact h
  | 1, h => exact (by obtain ⟨y1, y2, y3, e, h1⟩ := h; exact ⟨y1, y2, y3, e, ⟨h1.1.far hs hg hn hk, h1.2.1.far hs hg hn hk, h1.2.2.far hs hg hn hk⟩⟩)
  | 2, h => exact h
  | 3, h => exact h
  | 4, h => exact (by obtain ⟨x, y, z, e, h1, h2⟩ := h; exact ⟨x, y, z, e, ⟨h1.1.far hs hg hn hk, h1.2.1.far hs hg hn hk, h1.2.2.far hs hg hn hk⟩, h2.off hg hk⟩)
  | 5, h => exact (by obtain ⟨x, y, z, e, h1, h2⟩ := h; exact ⟨x, y, z, e, ⟨h1.1.far hs hg hn hk, h1.2.1.far hs hg hn hk, h1.2.2.far hs hg hn hk⟩, h2.off hg hk⟩)
  | 6, h => exact (by obtain ⟨x, y, z, e, h1, h2⟩ := h; exact ⟨x, y, z, e, ⟨h1.1.far hs hg hn hk, h1.2.1.far hs hg hn hk, h1.2.2.far hs hg hn hk⟩, h2.off hg hk⟩)
  | 7, h => exact h
  | 8, h => exact (by obtain ⟨g2, cs2, e, hb, _, _, _⟩ := h; rw [hal] at e; simp only [Value.pointer.injEq, Option.some.injEq, Addr.mk.injEq] at e; obtain ⟨rfl, _⟩ := e; exact ⟨g, cs', hal, hb, hc', hn', hg'⟩)
  | 9, _ => exact absurd rfl hj
  | 10, h => exact h
  | (m + 11), _ => exact trivial
def depK3 (j i : Nat) : Bool := match j with
  | 0 => i == 0
  | 1 => i == 1
  | 2 => i == 2
  | 3 => i == 3
  | 4 => i == 4
  | 5 => i == 5
  | 6 => i == 6
  | 7 => i == 7
  | 8 => i == 8
  | 9 => i == 9 || i == 8 || i == 6
  | 10 => i == 10
  | _ => false
theorem K3F.dep {base C : Nat} {V : Value} {L S : List Fl} {O : List Dop} {o : Dop} {AL AS : List Fl} {AO : List Dop} {j : Nat} {f f' : Nat → Value} {w : World} (hj : j < 11) (h : K3F base C V L S O o AL AS AO j f w) (he : ∀ i, depK3 j i = true → f (slotK3 i) = f' (slotK3 i)) : K3F base C V L S O o AL AS AO j f' w := by
  match j, hj, h, he with
  | 0, _, h, he =>
    have e0 : f 85 = f' 85 := he 0 rfl
    simp only [K3F] at h ⊢
    rw [← e0]
    exact h
  | 1, _, h, he =>
    have e1 : f 86 = f' 86 := he 1 rfl
    simp only [K3F] at h ⊢
    rw [← e1]
    exact h
  | 2, _, h, he =>
    have e2 : f 87 = f' 87 := he 2 rfl
    simp only [K3F] at h ⊢
    rw [← e2]
    exact h
  | 3, _, h, he =>
    have e3 : f 88 = f' 88 := he 3 rfl
    simp only [K3F] at h ⊢
    rw [← e3]
    exact h
  | 4, _, h, he =>
    have e4 : f 89 = f' 89 := he 4 rfl
    simp only [K3F] at h ⊢
    rw [← e4]
    exact h
  | 5, _, h, he =>
    have e5 : f 84 = f' 84 := he 5 rfl
    simp only [K3F] at h ⊢
    rw [← e5]
    exact h
  | 6, _, h, he =>
    have e6 : f 90 = f' 90 := he 6 rfl
    simp only [K3F] at h ⊢
    rw [← e6]
    exact h
  | 7, _, h, he =>
    have e7 : f 91 = f' 91 := he 7 rfl
    simp only [K3F] at h ⊢
    rw [← e7]
    exact h
  | 8, _, h, he =>
    have e8 : f 14 = f' 14 := he 8 rfl
    simp only [K3F] at h ⊢
    rw [← e8]
    exact h
  | 9, _, h, he =>
    have e8 : f 14 = f' 14 := he 8 rfl
    have e6 : f 90 = f' 90 := he 6 rfl
    simp only [K3F] at h ⊢
    rw [← e8, ← e6]
    exact h
  | 10, _, h, he =>
    have e10 : f 15 = f' 15 := he 10 rfl
    simp only [K3F] at h ⊢
    rw [← e10]
    exact h
  | (m + 11), hj, _, _ => exact absurd hj (by omega)
end Go.Proofs.Ytdlkokdhbffhpaa
