/-
  The reader of codes draws a node over a dag: its ups are ids of the dag's nodes; its own memory. Condition: the code reads as bytes.
  A drawn node: the region that draws its order puts one id more into its ups. Condition: the code reads as bytes.
  A drawn node over a dag, whole. Condition: the code reads as bytes.
  A drawn node over a dag, whole: the walk. Condition: the code reads as bytes.
  spec.Added over any dag and node. Condition: the code reads as bytes.
  A drawn dag: nodes that are right come one after another. Condition: the code reads as bytes.
-/
import Derived.Test.YtlibipbpaigmdaaGreatDoorDgC
import Derived.Test.YtlibipbpaigmdaaGreatDoorDgD
import Derived.Test.YtlibipbpaigmdaaGreatDoorDgA
namespace Go.Proofs.YtlibipbpaigmdaaGreatDoor
open Go.RowKit
set_option linter.unusedVariables false

theorem one_slice {w : World} {base size : Nat} {t : TypeId} {v : Value} {xs : List Value} (h : w.ownsRow base t size v 1 xs) : ∃ g c, v = .slice (some ⟨g, 0, none⟩) 1 c ∧ 1 ≤ c ∧ c ≤ 9223372036854775807 := by
  rcases h.2 with ⟨_, h2⟩ | ⟨g, c, cur, h2, _, _, h3, h4, _⟩
  · omega
  · unfold maxLen at h4
    exact ⟨g, c, h2, h3, by omega⟩

set_option maxRecDepth 10000 in
set_option maxHeartbeats 2000000 in
theorem l1Put_nil (s : ByteArray) (w : World) :
    Calls Tryz.prog 113 #[.slice none 0 0, .string s] w fun e w' => ∃ v, e = .returned v ∧ OwnL w' w.heap.size v [s.toList] ∧ Below w.heap.size w w' := by
  obtain ⟨i0, hi, hz0, hz1, hz2⟩ := info_parts info9
  have HO0 : Hid ((w.alloc (.cells #[] 9)).ownsRow w.heap.size 9 1 (.slice (some ⟨w.heap.size, 0, none⟩) 0 0) 0 []) := World.ownsRow_made w #[] 0 (Nat.le_refl _) (by decide) rfl
  have HS : Hid (IsStrs (w.alloc (.cells #[] 9)) none 0 0 (fun _ => ⟨#[]⟩)) := ⟨Nat.le_refl _, by omega, fun h => absurd h (Nat.lt_irrefl _)⟩
  have HZ : Hid (w.heap.size ≤ (w.alloc (.cells #[] 9)).heap.size) := by show _ ≤ _; simp
  have HNEW : Hid (∀ j u, [Value.string s][j]? = some u → ((w.alloc (.cells #[] 9)).alloc (.cells #[.string s] 9)).cell? ((⟨w.heap.size + 1, 0, none⟩ : Addr).add j) = some u) := fun j u hu => by
    have h1 : (w.alloc (.cells #[] 9)).heap.size = w.heap.size + 1 := by simp
    have h2 := heap_alloc_new (w.alloc (.cells #[] 9)) (.cells #[.string s] 9)
    rw [h1] at h2
    rw [add_at, cellN h2, ← hu]
    simp
  go_enter Tryz.func113, Tryz.ntmps113
  go_wp2_with fail
  go_loop [5] (fun i => i = .int .i64 0) (fun i => 0)
  case atStart => rfl
  case round =>
    subst hrel
    go_wp2_with (first
      | (at_builtin
         refine wpList_append_own _ rfl _ _ 25 rfl w.heap.size 9 i0 (.string ⟨#[]⟩) 1 16 Tryz.underlying25 hi hz0 hz1 hz2 rfl (by decide) (.slice (some ⟨w.heap.size, 0, none⟩) 0 0) 0 [] rfl (HO0.out.alloc _) ⟨w.heap.size + 1, 0, none⟩ 1 1 [.string s] rfl rfl HNEW.out (fun u hu => by simp at hu; subst hu; rfl) (by unfold maxLen; omega) (by omega) (by simp; omega) ?_
         intro v2 w2 ho2 hg2 hn2
         obtain ⟨g, c, rfl, hc1, hc2⟩ := one_slice ho2
         have HF : Hid (w2.ownsRow w.heap.size 9 1 (.slice (some ⟨g, 0, none⟩) 1 c) 1 [.string s] ∧ Below w.heap.size w w2) := ⟨ho2, (((Below.refl _ _).alloc (Nat.le_refl _) _).alloc HZ.out _).grown hg2 (by simp; omega) (fun j hj => by cases hj; exact Nat.le_refl _)⟩
         clear ho2 hg2 hn2))
    go_ret
    refine ⟨_, rfl, ?_, HF.out.2⟩
    have := HF.out.1
    rw [← enc_str] at this
    exact this

theorem l1PutL_any (base : Nat) (v : Value) (T : List (List UInt8)) (s : ByteArray) (w : World) (h : OwnL w base v T) (hl : T.length ≤ 1000000) :
    Calls Tryz.prog 113 #[v, .string s] w fun e w' => ∃ v', e = .returned v' ∧ OwnL w' w.heap.size v' (putL T s.toList) ∧ Below w.heap.size w w' := by
  rcases h.2 with ⟨rfl, h2⟩ | ⟨g, cap, cur, rfl, hb, hh, hnc, hcm, r⟩
  · have h0 : T = [] := List.eq_nil_of_length_eq_zero h2
    subst h0
    exact l1Put_nil s w
  · have hO : OwnS w base g cap T := h
    refine (l1Put_any g 0 cap T s w hO.lies.1 hO.lies.2.1 hO.caps.1 hO.caps.2 hl).mono ?_
    rintro e w' ⟨g', gc, rfl, ho, hB⟩
    exact ⟨_, rfl, ho.ownL, hB⟩
end Go.Proofs.YtlibipbpaigmdaaGreatDoor

namespace Go.Proofs.YtlibipbpaigmdaaGreatDoor
open Go.RowKit
set_option linter.unusedVariables false

theorem canon_put_same (a0 : Act) (ds : List Nat) (f : Nat → Value) (d : Nat) (hd : d ∈ ds) : (canon a0 ds f).put (some d) (f d) = canon a0 ds f := by
  rw [canon_put a0 ds f d (f d) hd]
  congr 1
  funext x
  by_cases h : x = d
  · rw [if_pos h, h]
  · rw [if_neg h]
theorem wpOp_runS {P : Program} {ops : Array Oper} {Q : Exit → Act → World → Prop} {i : Nat} {o : Oper} {K : Act → World → Prop} {t : Act} {w w' : World} (ho : ops[i]? = some o) (hg : Region.wanted o (yielded ops t.tmps) = true) (hrun : (execOp t.eval o).run P w = .ok .skip w') (h : K (t.put o.dst undef) w') : wpOp P ops Q i K t w := by
  refine wpOp_step ho fun K' hK => ?_
  rw [if_pos hg]
  unfold Oper.wp
  rw [hrun]
  exact hK _ _ h
theorem n_call1 (ev : Operand → Value) (o : Oper) (w : World) (f : FuncId) (he : ∀ args w, (callFunc f args).run Tryz.prog w = .ok (.enter f args) w) (x : Operand) (ts : Array TypeId) (h : o.op = .call { callee := .value (.func f), args := #[x], argTypes := ts }) (hf : ev (.func f) = .func (.func f) #[] #[]) : (execOp ev o).run Tryz.prog w = .ok (.enter f #[ev x]) w := by
  simp [execOp, h, resolve, invoke, hf, Deferred.ofValue, he]
theorem n_call2 (ev : Operand → Value) (o : Oper) (w : World) (f : FuncId) (he : ∀ args w, (callFunc f args).run Tryz.prog w = .ok (.enter f args) w) (x y : Operand) (ts : Array TypeId) (h : o.op = .call { callee := .value (.func f), args := #[x, y], argTypes := ts }) (hf : ev (.func f) = .func (.func f) #[] #[]) : (execOp ev o).run Tryz.prog w = .ok (.enter f #[ev x, ev y]) w := by
  simp [execOp, h, resolve, invoke, hf, Deferred.ofValue, he]
theorem n_move (ev : Operand → Value) (o : Oper) (w : World) (x : Operand) (h : o.op = .move x) : (execOp ev o).run Tryz.prog w = .ok (.value (ev x)) w := by simp [execOp, h]
theorem n_field5 (ev : Operand → Value) (o : Oper) (w : World) (x : Operand) (b : Nat) (h : o.op = .fieldAddr 50 x 5) (hx : ev x = .pointer (some ⟨b, 0, none⟩)) : (execOp ev o).run Tryz.prog w = .ok (.value (.pointer (some ⟨b, 5, none⟩))) w := by
  simp [execOp, h, hx]
  go_simp
theorem n_loadU (ev : Operand → Value) (o : Oper) (w : World) (x : Operand) (b : Nat) (v : Value) (h : o.op = .load 25 x) (hx : ev x = .pointer (some ⟨b, 5, none⟩)) (hc : w.cell? ⟨b, 5, none⟩ = some v) : (execOp ev o).run Tryz.prog w = .ok (.value v) w := by
  simp [execOp, h, hx]
  go_simp
theorem n_len (ev : Operand → Value) (o : Oper) (w : World) (x : Operand) (a : Option Addr) (n c : Nat) (h : o.op = .call { callee := .builtin .len, args := #[x], argTypes := #[28] }) (hx : ev x = .slice a n c) (h1 : n ≤ c) (h2 : c ≤ 9223372036854775807) : (execOp ev o).run Tryz.prog w = .ok (.value (.int .i64 n)) w := by
  simp [execOp, h, hx, resolve, invoke, builtin]
  go_simp
theorem n_idx (ev : Operand → Value) (o : Oper) (w : World) (x y : Operand) (g n c k : Nat) (h : o.op = .indexAddr 28 x y) (hx : ev x = .slice (some ⟨g, 0, none⟩) n c) (hy : ev y = .int .i64 k) (hk : k < n) (h1 : n ≤ c) (h2 : c ≤ 9223372036854775807) : (execOp ev o).run Tryz.prog w = .ok (.value (.pointer (some ⟨g, 0 + k * 6, none⟩))) w := by
  have hkI : (k : Int) < (n : Int) := by omega
  simp [execOp, h, hx, hy]
  go_simp
theorem n_loadN (ev : Operand → Value) (o : Oper) (w : World) (x : Operand) (g p : Nat) (d : Nd) (h : o.op = .load 50 x) (hx : ev x = .pointer (some ⟨g, p, none⟩)) (hd : NdAt w g p d) : (execOp ev o).run Tryz.prog w = .ok (.value (.agg #[.int .i64 d.a, .int .i64 d.s, .int .i64 d.k, .string d.key, .string d.text, .slice d.u d.n d.cap])) w := by
  obtain ⟨c0, c1, c2, c3, c4, c5, _⟩ := hd
  simp [execOp, h, hx]
  go_simp
theorem n_storeU (ev : Operand → Value) (o : Oper) (w : World) (x y : Operand) (b : Nat) (v : Value) (u : Option Addr) (n c : Nat) (h : o.op = .store 25 x y) (hx : ev x = .pointer (some ⟨b, 5, none⟩)) (hy : ev y = .slice u n c) (hc : w.cell? ⟨b, 5, none⟩ = some v) (hf : w.frozen? ⟨b, 5, none⟩ = false) : (execOp ev o).run Tryz.prog w = .ok .skip (w.setCell ⟨b, 5, none⟩ (.slice u n c)) := by
  simp [execOp, h, hx, hy]
  go_simp
end Go.Proofs.YtlibipbpaigmdaaGreatDoor

namespace Go.Proofs.YtlibipbpaigmdaaGreatDoor
open Go.RowKit
set_option linter.unusedVariables false

def dsN : List Nat := [39, 40, 41, 42, 43, 44, 45, 46, 47, 48, 49, 50, 38]
def slotN (j : Nat) : Nat := dsN.getD j 0
theorem slotN_inj (i j : Nat) (hi : i < 13) (hj : j < 13) (q : slotN i = slotN j) : i = j := by
  have h : ∀ i : Fin 13, ∀ j : Fin 13, slotN i.val = slotN j.val → i.val = j.val := by decide
  exact h ⟨i, hi⟩ ⟨j, hj⟩ q
theorem slotN_mem (i : Nat) (hi : i < 13) : slotN i ∈ dsN := by
  have h : ∀ i : Fin 13, slotN i.val ∈ dsN := by decide
  exact h ⟨i, hi⟩

theorem draw_set {W : World} {a : Option Addr} {len cap R : Nat} {w : World} (h : Draw W a len cap R w) {b : Nat} (h1 : W.heap.size ≤ b) (h2 : R ≠ b) (o : Nat) (u : Value) : Draw W a len cap R (w.setCell ⟨b, o, none⟩ u) := by
  obtain ⟨p, hp, hb⟩ := h.box
  exact ⟨h.bel.setCell (p := ⟨b, o, none⟩) h1 _, h.new, p, hp, by rw [Below.heap_setCell _ _ _ _ h2]; exact hb⟩
theorem OwnL.keepB {w w' : World} {base : Nat} {v : Value} {T : List (List UInt8)} (h : OwnL w base v T) (he : ∀ k, base ≤ k → k < w.heap.size → w'.heap[k]? = w.heap[k]?) : OwnL w' base v T :=
  own_keep h (fun k hk => he k (World.ownsRow.lt h k hk).1 (World.ownsRow.lt h k hk).2)

/-- a slice of ids of the dag, rising, that lies behind block b -/
def UpsV (L : List Nd) (b : Nat) (v : Value) (w : World) : Prop := ∃ T, OwnL w (b + 1) v T ∧ Up T ∧ ∀ x ∈ T, IsId (gN L) L.length x
theorem UpsV.keep {L : List Nd} {b : Nat} {v : Value} {w w' : World} (h : UpsV L b v w) (he : ∀ k, b < k → k < w.heap.size → w'.heap[k]? = w.heap[k]?) : UpsV L b v w' := by
  obtain ⟨T, ho, h1, h2⟩ := h
  exact ⟨T, ho.keepB (fun k hk hs => he k (by omega) hs), h1, h2⟩

/-- the worlds of the drawing of a node -/
structure NS (W w0 : World) (a : Option Addr) (len cap R b5 : Nat) (L : List Nd) (K : Int) (text : ByteArray) (w : World) : Prop where
  draw : Draw W a len cap R w
  mt0 : Mut R w0 w
  row4 : w.heap[w0.heap.size]? = some (.cells #[.int .i64 0, .int .i64 0, .int .i64 0, .string ⟨#[]⟩, .string ⟨#[]⟩, .slice none 0 0] 50 (0, 0))
  row5 : ∃ A S key u, key.size ≤ 3 ∧ 1 ≤ A ∧ A ≤ 3 ∧ w.heap[b5]? = some (.cells #[.int .i64 A, .int .i64 S, .int .i64 K, .string key, .string text, u] 50 (0, 0)) ∧ UpsV L b5 u w
  apart : W.heap.size ≤ R ∧ R < w0.heap.size ∧ w0.heap.size < b5 ∧ b5 < w.heap.size
section
variable {W w0 : World} {a : Option Addr} {len cap R b5 : Nat} {L : List Nd} {K : Int} {text : ByteArray} {w w' : World}
theorem NS.step (h : NS W w0 a len cap R b5 L K text w) (hD : Draw W a len cap R w') (hM : Mut R w w') : NS W w0 a len cap R b5 L K text w' := by
  obtain ⟨A, S, key, u, h0, h1, h2, h3, h4⟩ := h.row5
  have ha := h.apart
  have hs := hM.size
  exact ⟨hD, h.mt0.trans hM, (hM.block _ (lt_of_block h.row4) (by omega)).trans h.row4, ⟨A, S, key, u, h0, h1, h2, (hM.block _ (lt_of_block h3) (by omega)).trans h3, h4.keep (fun k hk hk2 => hM.block k hk2 (by omega))⟩, ⟨ha.1, ha.2.1, ha.2.2.1, by omega⟩⟩
theorem NS.below (h : NS W w0 a len cap R b5 L K text w) (hB : Below w.heap.size w w') : NS W w0 a len cap R b5 L K text w' := h.step (h.draw.below hB) (Mut.of_below hB)
theorem NS.set (h : NS W w0 a len cap R b5 L K text w) {v : Value} (hv : UpsV L b5 v w) : NS W w0 a len cap R b5 L K text (w.setCell ⟨b5, 5, none⟩ v) := by
  obtain ⟨A, S, key, u, h0, h1, h2, h3, h4⟩ := h.row5
  have ha := h.apart
  have hb : ∀ k, k ≠ b5 → (w.setCell ⟨b5, 5, none⟩ v).heap[k]? = w.heap[k]? := fun k hk => Below.heap_setCell _ _ _ _ hk
  refine ⟨draw_set h.draw (by omega) (by omega) 5 v, ⟨h.mt0.os, h.mt0.tape, h.mt0.output, by simpa [World.setCell] using h.mt0.size, fun k hk hr => ?_⟩, ?_, ⟨A, S, key, v, h0, h1, h2, ?_, ?_⟩, ⟨ha.1, ha.2.1, ha.2.2.1, by simpa [World.setCell] using ha.2.2.2⟩⟩
  · rw [hb k (by omega)]
    exact h.mt0.block k hk hr
  · rw [hb _ (by omega)]
    exact h.row4
  · rw [heap_setCell_same _ _ _ _ 50 _ h3]
    rfl
  · exact hv.keep (fun k hk _ => hb k (by omega))
theorem NS.setAt (h : NS W w0 a len cap R b5 L K text w) (o : Nat) (v : Value) (hv : ∀ A S key u, key.size ≤ 3 → 1 ≤ A → A ≤ 3 → ∃ A' S' key', key'.size ≤ 3 ∧ 1 ≤ A' ∧ A' ≤ 3 ∧ (#[.int .i64 A, .int .i64 S, .int .i64 K, .string key, .string text, u] : Array Value).setIfInBounds o v = #[.int .i64 A', .int .i64 S', .int .i64 K, .string key', .string text, u]) : NS W w0 a len cap R b5 L K text (w.setCell ⟨b5, o, none⟩ v) := by
  obtain ⟨A, S, key, u, h0, h1, h2, h3, h4⟩ := h.row5
  have ha := h.apart
  have hb : ∀ k, k ≠ b5 → (w.setCell ⟨b5, o, none⟩ v).heap[k]? = w.heap[k]? := fun k hk => Below.heap_setCell _ _ _ _ hk
  obtain ⟨A', S', key', q0, q1, q2, q3⟩ := hv A S key u h0 h1 h2
  refine ⟨draw_set h.draw (by omega) (by omega) o v, ⟨h.mt0.os, h.mt0.tape, h.mt0.output, by simpa [World.setCell] using h.mt0.size, fun k hk hr => ?_⟩, ?_, ⟨A', S', key', u, q0, q1, q2, ?_, ?_⟩, ⟨ha.1, ha.2.1, ha.2.2.1, by simpa [World.setCell] using ha.2.2.2⟩⟩
  · rw [hb k (by omega)]
    exact h.mt0.block k hk hr
  · rw [hb _ (by omega)]
    exact h.row4
  · rw [heap_setCell_same _ _ _ _ 50 _ h3, q3]
  · exact h4.keep (fun k hk _ => hb k (by omega))
/-- what of the worlds stays -/
def NRel (W w0 : World) (a : Option Addr) (len cap R b5 : Nat) (L : List Nd) (K : Int) (text : ByteArray) (w w' : World) : Prop :=
  (NS W w0 a len cap R b5 L K text w → NS W w0 a len cap R b5 L K text w') ∧ w.heap.size ≤ w'.heap.size ∧ ∀ k, b5 < k → k < w.heap.size → w'.heap[k]? = w.heap[k]?
end

def NF (R g gc b5 : Nat) (L : List Nd) : Nat → Value → World → Prop
  | 0, v, _ => v = .pointer (some ⟨b5, 5, none⟩)
  | 1, v, w => UpsV L b5 v w
  | 2, v, _ => v = .slice (some ⟨g, 0, none⟩) L.length gc
  | 3, v, _ => v = .pointer (some ⟨R, 0, none⟩)
  | 4, v, _ => v = .slice (some ⟨g, 0, none⟩) L.length gc
  | 5, v, _ => v = .int .i64 L.length
  | 6, v, _ => ∃ y : Nat, y < L.length ∧ v = .int .i64 y
  | 7, v, _ => ∃ y : Nat, y < L.length ∧ v = .pointer (some ⟨g, 0 + y * 6, none⟩)
  | 8, v, _ => ∃ y : Nat, y < L.length ∧ v = .agg #[.int .i64 (gN L y).a, .int .i64 (gN L y).s, .int .i64 (gN L y).k, .string (gN L y).key, .string (gN L y).text, .slice (gN L y).u (gN L y).n (gN L y).cap]
  | 9, v, _ => ∃ y : Nat, y < L.length ∧ v = .string (ids (gN L) y)
  | 10, v, w => UpsV L b5 v w
  | 11, v, _ => v = .pointer (some ⟨b5, 5, none⟩)
  | _, _, _ => True
theorem NF.keep {R g gc b5 : Nat} {L : List Nd} (j : Nat) (v : Value) (w w' : World) (h : NF R g gc b5 L j v w) (he : ∀ k, b5 < k → k < w.heap.size → w'.heap[k]? = w.heap[k]?) : NF R g gc b5 L j v w' := by
  unfold NF at h ⊢
  split at h <;> first | exact h | exact UpsV.keep h he

/-- the region of a drawn node's ups, and what comes of it -/
theorem UpsV.slice {L : List Nd} {b : Nat} {v : Value} {w : World} (h : UpsV L b v w) : ∃ u n c, v = .slice u n c := by
  obtain ⟨T, ho, _⟩ := h
  obtain ⟨u, c, e⟩ := own_slice ho
  exact ⟨u, _, c, e⟩
end Go.Proofs.YtlibipbpaigmdaaGreatDoor

namespace Go.Proofs.YtlibipbpaigmdaaGreatDoor
open Go.RowKit
set_option linter.unusedVariables false

theorem ids_size (D : Nat → Nd) (i : Nat) : (ids D i).size ≤ 64 := by
  cases h : (D i).ok with
  | true => rw [show (ids D i).size = 64 from id_size h]; omega
  | false => rw [show ids D i = ⟨#[]⟩ from id_none h]; decide

/-- what is drawn: a node whose ups are ids of the dag -/
structure DN (L : List Nd) (x : Nd) : Prop where
  fine : FineN x
  few : x.n ≤ 100
  ups : ∀ j, j < x.n → IsId (gN L) L.length (x.S j).toList
  auth : 1 ≤ x.a ∧ x.a ≤ 3
theorem UpsV.node {L : List Nd} {b5 base : Nat} {u : Value} {w : World} (h : UpsV L b5 u w) (hb : base ≤ b5) (hL : L.length ≤ 100) (A S K : Int) (key text : ByteArray) (hA : 1 ≤ A ∧ A ≤ 3) (hk : key.size ≤ 3) (ht : text.size ≤ 3) : ∃ x : Nd, u = .slice x.u x.n x.cap ∧ x.a = A ∧ x.s = S ∧ x.k = K ∧ x.key = key ∧ x.text = text ∧ UpO w base x ∧ DN L x := by
  obtain ⟨T, ho, hU, hI⟩ := h
  obtain ⟨a, c, e⟩ := own_slice ho
  have hl : T.length ≤ L.length := up_len hU hI
  have hat : ∀ j, j < T.length → (atL T j).toList ∈ T := fun j hj => by
    rw [atL_list, List.getD_eq_getElem?_getD, List.getElem?_eq_getElem hj]
    exact List.getElem_mem hj
  refine ⟨⟨A, S, K, key, text, a, T.length, c, atL T⟩, e, rfl, rfl, rfl, rfl, rfl, ⟨T.map encStr, ?_, fun i hi => ?_⟩, ⟨⟨by show key.size ≤ _; omega, by show text.size ≤ _; omega, fun j hj => ?_⟩, by show T.length ≤ 100; omega, fun j hj => hI _ (hat j hj), hA⟩⟩
  · have h1 : w.ownsRow (b5 + 1) 9 1 u T.length (T.map encStr) := ho
    rw [e] at h1
    exact mono_base h1 (by omega)
  · have hi' : i < T.length := hi
    rw [List.getElem?_map, List.getElem?_eq_getElem hi']
    show some (encStr T[i]) = some (.string (tx (T.getD i [])))
    rw [List.getD_eq_getElem?_getD, List.getElem?_eq_getElem hi']
    rfl
  · have hj' : j < T.length := hj
    obtain ⟨i, hi, e2⟩ := hI _ (hat j hj')
    have h1 := ids_size (gN L) i
    have h2 : (atL T j) = ids (gN L) i := by rw [← tx_toList (atL T j), ← tx_toList (ids (gN L) i), e2]
    show (atL T j).size ≤ _
    rw [h2]
    omega

theorem ownD_at {w : World} {base g gc : Nat} {L : List Nd} (h : OwnD w base (.slice (some ⟨g, 0, none⟩) L.length gc) L) {y : Nat} (hy : y < L.length) : NdAt w g (0 + y * 6) (gN L y) ∧ IsStrs w (gN L y).u (gN L y).n (gN L y).cap (gN L y).S := by
  obtain ⟨a, c, e, hI, _⟩ := h.nds
  obtain ⟨b, off, ea, _, hat⟩ := hI.2.2 (by omega)
  simp only [Value.slice.injEq] at e
  rw [← e.1] at ea
  simp only [Option.some.injEq, Addr.mk.injEq] at ea
  obtain ⟨rfl, rfl, _⟩ := ea
  exact ⟨hat y hy, (h.2 _ (gN_mem hy)).strs⟩
section
variable {W w0 : World} {a : Option Addr} {len cap R b5 : Nat} {L : List Nd} {K : Int} {text : ByteArray} {w w' : World}
theorem NS.own (h : NS W w0 a len cap R b5 L K text w) {base : Nat} {v : Value} (hO : OwnD w0 base v L) (hb : R < base) : OwnD w base v L := hO.keep (fun k hk hs => h.mt0.block k hs (by omega))
theorem NS.done (h : NS W w0 a len cap R b5 L K text w) (q : Array Value) {xx : Nd} (hu : UpO w w0.heap.size xx) : UpO (w.setRow w0.heap.size q) w0.heap.size xx ∧ Draw W a len cap R (w.setRow w0.heap.size q) ∧ Mut R w0 (w.setRow w0.heap.size q) := by
  have ha := h.apart
  have hb : ∀ k, k ≠ w0.heap.size → (w.setRow w0.heap.size q).heap[k]? = w.heap[k]? := fun k hk => setRow_other _ _ _ _ hk
  refine ⟨UpO.keep hu (fun k hk hc => hb k (fun e => ?_)), ?_, ⟨h.mt0.os, h.mt0.tape, h.mt0.output, by rw [setRow_size]; exact h.mt0.size, fun k hk hr => (hb k (by omega)).trans (h.mt0.block k hk hr)⟩⟩
  · obtain ⟨cs, hc⟩ := hc
    subst e
    rw [h.row4] at hc
    simp at hc
  · obtain ⟨p, hp, hx⟩ := h.draw.box
    exact ⟨below_setRow h.draw.bel (by omega) q, h.draw.new, p, hp, (hb R (by omega)).trans hx⟩
theorem NRel.refl (w : World) : NRel W w0 a len cap R b5 L K text w w := ⟨fun h => h, Nat.le_refl _, fun _ _ _ => rfl⟩
theorem NRel.of_below (hB : Below w.heap.size w w') : NRel W w0 a len cap R b5 L K text w w' := ⟨fun h => h.below hB, hB.size, fun k _ hk => hB.block k hk⟩
theorem NRel.of_mut (hD : Draw W a len cap R w') (hM : Mut R w w') (hb : R < b5) : NRel W w0 a len cap R b5 L K text w w' := ⟨fun h => h.step hD hM, hM.size, fun k hk hs => hM.block k hs (by omega)⟩
theorem NRel.of_set {v : Value} (hv : UpsV L b5 v w) : NRel W w0 a len cap R b5 L K text w (w.setCell ⟨b5, 5, none⟩ v) := ⟨fun h => h.set hv, by simp [World.setCell], fun k hk _ => Below.heap_setCell _ _ _ _ (show k ≠ b5 by omega)⟩
theorem UpsV.put {y : Nat} (hy : y < L.length) {T : List (List UInt8)} (hT : ∀ x ∈ T, IsId (gN L) L.length x) (hU : Up T) {v' : Value} (hb : b5 < w.heap.size) (hO : OwnL w' w.heap.size v' (putL T (ids (gN L) y).toList)) : UpsV L b5 v' w' := by
  refine ⟨_, mono_base hO (by omega), putL_up _ _ hU, fun x hx => ?_⟩
  rcases (putL_mem _ _ _).1 hx with h | h
  · exact hT x h
  · exact ⟨y, hy, h.symm⟩
end
section
variable {W : World} {a : Option Addr} {len cap R : Nat} {Z : Nat → Int}

set_option maxRecDepth 20000 in
set_option maxHeartbeats 16000000 in
theorem node_any (hU : IsU8 W a len cap Z) (base g gc : Nat) (L : List Nd) (w : World) (h : Draw W a len cap R w) (hO : OwnD w base (.slice (some ⟨g, 0, none⟩) L.length gc) L) (hbR : R < base) (hbw : base ≤ w.heap.size) (hF : Fine (gN L) L.length) (hl : L.length ≤ 30) :
    Calls Tryz.prog 120 #[.pointer (some ⟨R, 0, none⟩), .slice (some ⟨g, 0, none⟩) L.length gc] w fun e w' => ∃ x : Nd, e = .returned (.agg #[.int .i64 x.a, .int .i64 x.s, .int .i64 x.k, .string x.key, .string x.text, .slice x.u x.n x.cap]) ∧ UpO w' w.heap.size x ∧ DN L x ∧ Draw W a len cap R w' ∧ Mut R w w' := by
  have HU := (show Hid _ from hU)
  have HWR : Hid (W.heap.size ≤ R ∧ R < w.heap.size) := ⟨h.new, h.lt⟩
  have HO : Hid (OwnD w base (.slice (some ⟨g, 0, none⟩) L.length gc) L) := hO
  have HF : Hid (Fine (gN L) L.length) := hF
  have HBR : Hid (R < base ∧ base ≤ w.heap.size) := ⟨hbR, hbw⟩
  have HL : Hid (L.length ≤ 30) := hl
  obtain ⟨_, cx, hve, hND, _⟩ := hO.nds
  have hgc : L.length ≤ gc ∧ gc ≤ 9223372036854775807 := by
    simp only [Value.slice.injEq] at hve
    rw [hve.2.2]
    exact ⟨hND.1, hND.2.1⟩
  obtain ⟨n, hn⟩ : ∃ n, n = L.length := ⟨_, rfl⟩
  have HN : Hid (n = L.length) := hn
  rw [← hn] at hgc ⊢
  obtain ⟨hgc1, hgc2⟩ := hgc
  have HGC : Hid (n ≤ gc ∧ gc ≤ 9223372036854775807) := ⟨hgc1, hgc2⟩
  have HD0 : Hid (∀ o, Draw W a len cap R (w.alloc o) ∧ Mut R w (w.alloc o)) := fun o => ⟨h.alloc o, (Mut.refl R w).alloc o⟩
  have HR4 : Hid (∀ w', Mut R (w.alloc (.cells #[.int .i64 0, .int .i64 0, .int .i64 0, .string ⟨#[]⟩, .string ⟨#[]⟩, .slice none 0 0] 50)) w' → w'.heap[w.heap.size]? = some (.cells #[.int .i64 0, .int .i64 0, .int .i64 0, .string ⟨#[]⟩, .string ⟨#[]⟩, .slice none 0 0] 50 (0, 0))) := fun w' hM => (hM.block w.heap.size (by simp) (by have := HWR.out; omega)).trans (heap_alloc_new w _)
  have en1 : ∀ args w, (callFunc 111 args).run Tryz.prog w = .ok (.enter 111 args) w := enters_of Tryz.func111 (by kernel_rfl) rfl
  have en2 : ∀ args w, (callFunc 58 args).run Tryz.prog w = .ok (.enter 58 args) w := enters_of Tryz.func58 (by kernel_rfl) rfl
  have en3 : ∀ args w, (callFunc 113 args).run Tryz.prog w = .ok (.enter 113 args) w := enters_of Tryz.func113 (by kernel_rfl) rfl
  have HEN1 := (show Hid _ from en1)
  have HEN2 := (show Hid _ from en2)
  have HEN3 := (show Hid _ from en3)
  clear hU h hO hbR hbw hF hl hve hND en1 en2 en3 hn
  go_enter Tryz.func120, Tryz.ntmps120
  go_wp2_with fail
  refine (below_any HU.out 3 (by omega) (by omega) _ (HD0.out _).1).mono ?_
  rintro e w1 ⟨x1, hx10, hx11, rfl, hD1, hM1⟩
  have HD1 : Hid (Draw W a len cap R w1) := hD1
  have HM1 : Hid (Mut R (w.alloc (.cells #[.int .i64 0, .int .i64 0, .int .i64 0, .string ⟨#[]⟩, .string ⟨#[]⟩, .slice none 0 0] 50)) w1) := hM1
  clear hD1 hM1
  go_wp2_with fail
  refine (below_any HU.out 4 (by omega) (by omega) _ HD1.out).mono ?_
  rintro e w2 ⟨x2, hx20, hx21, rfl, hD2, hM2⟩
  have HD2 : Hid (Draw W a len cap R w2) := hD2
  have HM2 : Hid (Mut R (w.alloc (.cells #[.int .i64 0, .int .i64 0, .int .i64 0, .string ⟨#[]⟩, .string ⟨#[]⟩, .slice none 0 0] 50)) w2) := HM1.out.trans hM2
  clear hD2 hM2 HD1 HM1
  go_wp2_with fail
  refine (below_any HU.out 3 (by omega) (by omega) _ HD2.out).mono ?_
  rintro e w3 ⟨x3, hx30, hx31, rfl, hD3, hM3⟩
  have HD3 : Hid (Draw W a len cap R w3) := hD3
  have HM3 : Hid (Mut R (w.alloc (.cells #[.int .i64 0, .int .i64 0, .int .i64 0, .string ⟨#[]⟩, .string ⟨#[]⟩, .slice none 0 0] 50)) w3) := HM2.out.trans hM3
  clear hD3 hM3 HD2 HM2
  go_wp2_with fail
  refine (text_any HU.out _ HD3.out).mono ?_
  rintro e w4 ⟨tx4, htx4, rfl, hD4, hM4⟩
  have HD4 : Hid (Draw W a len cap R w4) := hD4
  have HM4 : Hid (Mut R (w.alloc (.cells #[.int .i64 0, .int .i64 0, .int .i64 0, .string ⟨#[]⟩, .string ⟨#[]⟩, .slice none 0 0] 50)) w4) := HM3.out.trans hM4
  have HTX : Hid (tx4.size ≤ 3) := htx4
  clear hD4 hM4 HD3 HM3 htx4
  obtain ⟨w5, hw5⟩ : ∃ w5, w5 = w4.alloc (.cells #[.int .i64 (1 + x1), .int .i64 (1 + x2), .int .i64 (1 + x3), .string ⟨#[]⟩, .string tx4, .slice none 0 0] 50) := ⟨_, rfl⟩
  have hs5 : NS W w a len cap R w4.heap.size L (1 + x3) tx4 w5 := by
    rw [hw5]
    have hM5 : Mut R (w.alloc (.cells #[.int .i64 0, .int .i64 0, .int .i64 0, .string ⟨#[]⟩, .string ⟨#[]⟩, .slice none 0 0] 50)) (w4.alloc (.cells #[.int .i64 (1 + x1), .int .i64 (1 + x2), .int .i64 (1 + x3), .string ⟨#[]⟩, .string tx4, .slice none 0 0] 50)) := HM4.out.alloc _
    have hz4 : w.heap.size < w4.heap.size := by have := HM4.out.size; simp at this; omega
    exact ⟨HD4.out.alloc _, (HD0.out _).2.trans hM5, HR4.out _ hM5, ⟨1 + x1, 1 + x2, ⟨#[]⟩, .slice none 0 0, by decide, by omega, by omega, heap_alloc_new _ _, ⟨[], World.ownsRow_nil _ _ _ _, by simp [Up], fun x hx => by cases hx⟩⟩, ⟨HWR.out.1, HWR.out.2, hz4, by simp⟩⟩
  have HS5 : Hid (NS W w a len cap R w4.heap.size L (1 + x3) tx4 w5) := hs5
  have HW5 := (show Hid _ from hw5)
  clear hs5 hw5 HD4 HM4 HR4 HD0
  have hx1r : 1 ≤ 1 + x1 ∧ 1 + x1 ≤ 3 := by omega
  have HA4 : Hid (R < w4.heap.size) := Nat.lt_trans HS5.out.apart.2.1 HS5.out.apart.2.2.1
  cases hk3 : ((1 + x3 : Int) == 3) with
  | false =>
    go_wp2_with fail
    rw [← HW5.out]
    obtain ⟨w7, hw7⟩ : ∃ w7, w7 = w5 := ⟨_, rfl⟩
    rw [← hw7]
    have HS7 : Hid (NS W w a len cap R w4.heap.size L (1 + x3) tx4 w7) := by rw [hw7]; exact HS5.out
    clear hw7 HW5 HS5
    refine (below_any HU.out 3 (by omega) (by omega) _ HS7.out.draw).mono ?_
    rintro e w8 ⟨x8, hx80, hx81, rfl, hD8, hM8⟩
    have HS8 : Hid (NS W w a len cap R w4.heap.size L (1 + x3) tx4 w8) := HS7.out.step hD8 hM8
    obtain ⟨k8, hk8⟩ : ∃ k : Nat, x8 = k := ⟨x8.toNat, by omega⟩
    subst hk8
    have HK8 : Hid (k8 ≤ 2) := by show k8 ≤ 2; omega
    clear hD8 hM8 HS7 hx80 hx81
    go_wp2_with fail
    go_loopw [6] (fun i wr => ∃ k : Nat, k ≤ 2 ∧ i = .int .i64 k ∧ Hid (NS W w a len cap R w4.heap.size L (1 + x3) tx4 wr)) (fun i _ => (intOf i).toNat)
    case atStart => exact ⟨k8, HK8.out, rfl, HS8⟩
    case round =>
      obtain ⟨k, hk, rfl, HSS⟩ := hrel
      clear HS8
      by_cases hk0 : 0 < k
      · have hk0I : (0 : Int) < (k : Int) := by omega
        by_cases hn0 : 0 < n
        · have hn0I : (0 : Int) < (n : Int) := by omega
          go_wp2_with fail
          obtain ⟨b5, hb5⟩ : ∃ b5, b5 = w4.heap.size := ⟨_, rfl⟩
          have hnL := HN.out
          rw [← hb5] at HSS ⊢
          refine wp_letter ?_
          intro fr hfr
          have hsz : 50 < fr.tmps.size := by rw [hfr]; exact Nat.le_of_ble_eq_true rfl
          have t0 : fr.eval (.tmp 0) = .pointer (some ⟨R, 0, none⟩) := by rw [hfr]; rfl
          have t1 : fr.eval (.tmp 1) = .slice (some ⟨g, 0, none⟩) L.length gc := by rw [hfr, ← hnL]; rfl
          have t5 : fr.eval (.tmp 5) = .pointer (some ⟨b5, 0, none⟩) := by rw [hfr]; rfl
          have HFR := (show Hid _ from hfr)
          have HRb : Hid (R < b5) := by rw [hb5]; exact HA4
          have hLg : L.length ≤ gc := by rw [← hnL]; exact HGC.out.1
          have hLp : 1 ≤ L.length := by rw [← hnL]; exact hn0
          have HB5 := (show Hid _ from hb5)
          clear hfr hb5
          refine wp_region_rel (Rel := NRel W w a len cap R b5 L (1 + x3) tx4) (fun w => ⟨fun h => h, Nat.le_refl _, fun _ _ _ => rfl⟩) (fun h k => ⟨fun q => k.1 (h.1 q), Nat.le_trans h.2.1 k.2.1, fun i h1 h2 => (k.2.2 i h1 (Nat.lt_of_lt_of_le h2 h.2.1)).trans (h.2.2 i h1 h2)⟩) (fun v => NRel.of_below ⟨rfl, rfl, rfl, Nat.le_refl _, fun _ _ => rfl⟩) (by kernel_rfl) (by kernel_rfl) dsN slotN (NF R g gc b5 L) (fun j v u u' h r => NF.keep j v u u' h r.2.2) ?_ ?_ ?_ ?_
          · intro i hi
            exact slotN_mem i hi
          · intro i j hi hj q
            exact slotN_inj i j hi hj q
          · intro ops hops f wy i o hy ho hd
            have ho2 := ho
            rw [hops] at ho
            have hi : i < 13 := by
              rcases Nat.lt_or_ge i 13 with h | h
              · exact h
              · rw [Array.getElem?_eq_none (by simpa using h)] at ho; cases ho
            have hS := hy.1 HSS.out
            have hi' : i = 0 ∨ i = 1 ∨ i = 2 ∨ i = 3 ∨ i = 4 ∨ i = 5 ∨ i = 6 ∨ i = 7 ∨ i = 8 ∨ i = 9 ∨ i = 10 ∨ i = 11 ∨ i = 12 := by omega
            clear hops
            rcases hi' with rfl | rfl | rfl | rfl | rfl | rfl | rfl | rfl | rfl | rfl | rfl | rfl | rfl <;> simp only [List.getElem?_toArray, List.getElem?_cons_succ, List.getElem?_cons_zero, Option.some.injEq] at ho <;> subst ho
            · refine wpOp_runG ho2 (wanted_none rfl) (n_field5 (canon fr dsN f).eval _ wy _ b5 rfl ((canon_eval_ne fr dsN f 5 (by decide)).trans t5)) ?_
              exact ⟨_, rfl, rfl, NRel.refl wy⟩
            · obtain ⟨A, S, key, u, q0, q1, q2, q3, q4⟩ := hS.row5
              refine wpOp_runG ho2 (wanted_none rfl) (n_loadU (canon fr dsN f).eval _ wy _ b5 u rfl ((canon_eval fr dsN f 39 (by decide) (Nat.lt_of_le_of_lt (by decide) hsz)).trans (hd ⟨0, .data⟩ (by simp) rfl)) (cellN q3)) ?_
              exact ⟨_, rfl, q4, NRel.refl wy⟩
            · refine wpOp_runG ho2 (wanted_none rfl) (n_move (canon fr dsN f).eval _ wy _ rfl) ?_
              exact ⟨_, rfl, (canon_eval_ne fr dsN f 1 (by decide)).trans t1, NRel.refl wy⟩
            · refine wpOp_runG ho2 (wanted_none rfl) (n_move (canon fr dsN f).eval _ wy _ rfl) ?_
              exact ⟨_, rfl, (canon_eval_ne fr dsN f 0 (by decide)).trans t0, NRel.refl wy⟩
            · refine wpOp_runG ho2 (wanted_none rfl) (n_move (canon fr dsN f).eval _ wy _ rfl) ?_
              exact ⟨_, rfl, (canon_eval_ne fr dsN f 1 (by decide)).trans t1, NRel.refl wy⟩
            · refine wpOp_runG ho2 (wanted_none rfl) (n_len (canon fr dsN f).eval _ wy _ _ _ gc rfl ((canon_eval fr dsN f 43 (by decide) (Nat.lt_of_le_of_lt (by decide) hsz)).trans (hd ⟨4, .data⟩ (by simp) rfl)) hLg HGC.out.2) ?_
              exact ⟨_, rfl, rfl, NRel.refl wy⟩
            · refine wpOp_enterG ho2 (wanted_none rfl) (n_call2 (canon fr dsN f).eval _ wy _ HEN1.out _ _ _ rfl rfl) ?_
              rw [(canon_eval fr dsN f 42 (by decide) (Nat.lt_of_le_of_lt (by decide) hsz)).trans (hd ⟨3, .data⟩ (by simp) rfl), (canon_eval fr dsN f 44 (by decide) (Nat.lt_of_le_of_lt (by decide) hsz)).trans (hd ⟨5, .data⟩ (by simp) rfl)]
              refine (belowN_any HU.out L.length hLp (by have := HL.out; omega) wy hS.draw).mono ?_
              rintro e wz ⟨y, hy1, rfl, hDz, hMz⟩
              exact ⟨_, rfl, _, rfl, ⟨y, hy1, rfl⟩, NRel.of_mut hDz hMz HRb.out⟩
            · obtain ⟨y, hy1, hyv⟩ := hd ⟨6, .data⟩ (by simp) rfl
              refine wpOp_runG ho2 (wanted_none rfl) (n_idx (canon fr dsN f).eval _ wy _ _ g L.length gc y rfl ((canon_eval fr dsN f 41 (by decide) (Nat.lt_of_le_of_lt (by decide) hsz)).trans (hd ⟨2, .data⟩ (by simp) rfl)) ((canon_eval fr dsN f 45 (by decide) (Nat.lt_of_le_of_lt (by decide) hsz)).trans hyv) hy1 hLg HGC.out.2) ?_
              exact ⟨_, rfl, ⟨y, hy1, rfl⟩, NRel.refl wy⟩
            · obtain ⟨y, hy1, hyv⟩ := hd ⟨7, .data⟩ (by simp) rfl
              have hOy := hS.own HO.out HBR.out.1
              refine wpOp_runG ho2 (wanted_none rfl) (n_loadN (canon fr dsN f).eval _ wy _ g _ (gN L y) rfl ((canon_eval fr dsN f 46 (by decide) (Nat.lt_of_le_of_lt (by decide) hsz)).trans hyv) (ownD_at hOy hy1).1) ?_
              exact ⟨_, rfl, ⟨y, hy1, rfl⟩, NRel.refl wy⟩
            · obtain ⟨y, hy1, hyv⟩ := hd ⟨8, .data⟩ (by simp) rfl
              have hOy := hS.own HO.out HBR.out.1
              have hf := (show Fine (gN L) L.length from HF.out) y hy1
              refine wpOp_enterG ho2 (wanted_none rfl) (n_call1 (canon fr dsN f).eval _ wy _ HEN2.out _ _ rfl rfl) ?_
              rw [(canon_eval fr dsN f 47 (by decide) (Nat.lt_of_le_of_lt (by decide) hsz)).trans hyv]
              refine (specIdOf_any _ _ _ _ _ _ _ _ (gN L y).S wy (ownD_at hOy hy1).2 hf.2.2 hf.1 hf.2.1).mono ?_
              rintro e wz ⟨rfl, hBz⟩
              exact ⟨_, rfl, _, rfl, ⟨y, hy1, rfl⟩, NRel.of_below hBz⟩
            · obtain ⟨y, hy1, hyv⟩ := hd ⟨9, .data⟩ (by simp) rfl
              obtain ⟨T, hT0, hT1, hT2⟩ := (show UpsV L b5 (f 40) wy from hd ⟨1, .data⟩ (by simp) rfl)
              have hTl : T.length ≤ L.length := up_len hT1 hT2
              refine wpOp_enterG ho2 (wanted_none rfl) (n_call2 (canon fr dsN f).eval _ wy _ HEN3.out _ _ _ rfl rfl) ?_
              rw [canon_eval fr dsN f 40 (by decide) (Nat.lt_of_le_of_lt (by decide) hsz), (canon_eval fr dsN f 48 (by decide) (Nat.lt_of_le_of_lt (by decide) hsz)).trans hyv]
              refine (l1PutL_any (b5 + 1) (f 40) T _ wy hT0 (by have := HL.out; omega)).mono ?_
              rintro e wz ⟨v', rfl, hOz, hBz⟩
              exact ⟨_, rfl, _, rfl, UpsV.put hy1 hT2 hT1 hS.apart.2.2.2 hOz, NRel.of_below hBz⟩
            · refine wpOp_runG ho2 (wanted_none rfl) (n_field5 (canon fr dsN f).eval _ wy _ b5 rfl ((canon_eval_ne fr dsN f 5 (by decide)).trans t5)) ?_
              exact ⟨_, rfl, rfl, NRel.refl wy⟩
            · have hv := (show UpsV L b5 (f 49) wy from hd ⟨10, .data⟩ (by simp) rfl)
              obtain ⟨u, m, c, hu⟩ := hv.slice
              rw [hu] at hv
              obtain ⟨A, S, key, u0, q0, q1, q2, q3, q4⟩ := hS.row5
              refine wpOp_runS ho2 (wanted_none rfl) (n_storeU (canon fr dsN f).eval _ wy _ _ b5 u0 u m c rfl ((canon_eval fr dsN f 50 (by decide) (Nat.lt_of_le_of_lt (by decide) hsz)).trans (hd ⟨11, .data⟩ (by simp) rfl)) ((canon_eval fr dsN f 49 (by decide) (Nat.lt_of_le_of_lt (by decide) hsz)).trans hu) (cellN q3) (frozN q3)) ?_
              exact ⟨_, (canon_put_same fr dsN f 38 (by decide)).symm, trivial, NRel.of_set hv⟩
          · intro f wy hy hall
            have HSY : Hid (NS W w a len cap R b5 L (1 + x3) tx4 wy) := hy.1 HSS.out
            rw [HFR.out]
            have e5 := HB5.out
            subst e5
            simp only [canon, dsN, List.foldl, Act.put, List.setIfInBounds_toArray, List.set_cons_succ, List.set_cons_zero]
            clear hy hall t0 t1 t5 HFR hsz
            go_wp2
            exact ⟨⟨k - 1, by omega, by go_num, HSY⟩, by simp [intOf]; omega⟩
        · have hn0I : ¬ (0 : Int) < (n : Int) := by omega
          go_wp2_with fail
          refine (once_any HU.out 40 (by omega) (by omega) _ HSS.out.draw).mono ?_
          rintro e w9 ⟨c9, rfl, hD9, hM9⟩
          have HS9 : Hid (NS W w a len cap R w4.heap.size L (1 + x3) tx4 w9) := HSS.out.step hD9 hM9
          clear hD9 hM9 HSS
          cases c9 with
          | true =>
            go_wp2_with fail
            refine (off1m_any HU.out _ HS9.out.draw).mono ?_
            rintro e w10 ⟨x10, _, _, rfl, hD10, hM10⟩
            have hs10 := HS9.out.step hD10 hM10
            clear hD10 hM10
            obtain ⟨A, S, key, u, q0, q1, q2, q3, q4⟩ := hs10.row5
            have s1 : w10.cell? ⟨w4.heap.size, 1, none⟩ = some (.int .i64 S) := cellN q3
            have s2 : w10.frozen? ⟨w4.heap.size, 1, none⟩ = false := frozN q3
            have HS11 : Hid (NS W w a len cap R w4.heap.size L (1 + x3) tx4 (w10.setCell ⟨w4.heap.size, 1, none⟩ (.int .i64 x10))) := hs10.setAt 1 _ (fun A S key u h0 h1 h2 => ⟨A, x10, key, h0, h1, h2, rfl⟩)
            clear hs10 q0 q1 q2 q3 q4
            obtain ⟨A2, S2, key2, u2, r0, r1, r2, r3, r4⟩ := HS11.out.row5
            obtain ⟨xx, hxu, hxa, hxs, hxk, hxkey, hxt, hxo, hxd⟩ := r4.node (base := w.heap.size) (Nat.le_of_lt HS11.out.apart.2.2.1) (Nat.le_trans HL.out (by decide)) A2 S2 (1 + x3) key2 tx4 ⟨r1, r2⟩ r0 HTX.out
            subst hxu
            have HRV : Hid (Value.agg #[Value.int .i64 A2, .int .i64 S2, .int .i64 (1 + x3), .string key2, .string tx4, .slice xx.u xx.n xx.cap] = .agg #[.int .i64 xx.a, .int .i64 xx.s, .int .i64 xx.k, .string xx.key, .string xx.text, .slice xx.u xx.n xx.cap]) := by show _ = _; rw [hxa, hxs, hxk, hxkey, hxt]
            have HXO : Hid (UpO _ w.heap.size xx) := hxo
            have HXD : Hid (DN L xx) := hxd
            obtain ⟨q, hq⟩ : ∃ q, q = #[Value.int .i64 A2, .int .i64 S2, .int .i64 (1 + x3), .string key2, .string tx4, .slice xx.u xx.n xx.cap] := ⟨_, rfl⟩
            have hi6 : (Tryz.prog.info? 50).map (·.size) = some q.size := by rw [hq]; kernel_rfl
            have ho6 : (#[Value.int .i64 0, .int .i64 0, .int .i64 0, .string ⟨#[]⟩, .string ⟨#[]⟩, .slice none 0 0] : Array Value).size = q.size := by rw [hq]; rfl
            have h16 : q.all (·.oneCell') = true := by rw [hq]; simp [Value.oneCell']
            have HQ : Hid (q = #[Value.int .i64 A2, .int .i64 S2, .int .i64 (1 + x3), .string key2, .string tx4, .slice xx.u xx.n xx.cap]) := hq
            have HR5 := (show Hid _ from r3)
            rw [← hq] at r3
            clear hxa hxs hxk hxkey hxt hxo hxd hq r0 r1 r2
            obtain ⟨z0, z1, z2, z3, z4, z5⟩ := row_cells HR5.out
            clear r3
            have HG4 := (show Hid _ from HS11.out.row4)
            have HDN := (show Hid _ from HS11.out.done q HXO.out)
            go_wp2_with (refine wpList_store_row rfl 50 _ _ rfl w.heap.size q rfl (congrArg Value.agg HQ.out.symm) 50 _ HG4.out hi6 ho6 h16 ?_)
            refine bodyPost_ret (v := .agg q) (results_cell_row rfl _ _ w.heap.size 50 _ _ _ rfl (setRow_heap _ _ _ _ _ _ HG4.out) Tryz.underlying50 rfl hi6) rfl ⟨xx, ret_val ((congrArg Value.agg HQ.out).trans HRV.out), HDN.out.1, HXD.out, HDN.out.2.1, HDN.out.2.2⟩
          | false =>
            have HS11 : Hid (NS W w a len cap R w4.heap.size L (1 + x3) tx4 w9) := HS9.out
            obtain ⟨A2, S2, key2, u2, r0, r1, r2, r3, r4⟩ := HS11.out.row5
            obtain ⟨xx, hxu, hxa, hxs, hxk, hxkey, hxt, hxo, hxd⟩ := r4.node (base := w.heap.size) (Nat.le_of_lt HS11.out.apart.2.2.1) (Nat.le_trans HL.out (by decide)) A2 S2 (1 + x3) key2 tx4 ⟨r1, r2⟩ r0 HTX.out
            subst hxu
            have HRV : Hid (Value.agg #[Value.int .i64 A2, .int .i64 S2, .int .i64 (1 + x3), .string key2, .string tx4, .slice xx.u xx.n xx.cap] = .agg #[.int .i64 xx.a, .int .i64 xx.s, .int .i64 xx.k, .string xx.key, .string xx.text, .slice xx.u xx.n xx.cap]) := by show _ = _; rw [hxa, hxs, hxk, hxkey, hxt]
            have HXO : Hid (UpO _ w.heap.size xx) := hxo
            have HXD : Hid (DN L xx) := hxd
            obtain ⟨q, hq⟩ : ∃ q, q = #[Value.int .i64 A2, .int .i64 S2, .int .i64 (1 + x3), .string key2, .string tx4, .slice xx.u xx.n xx.cap] := ⟨_, rfl⟩
            have hi6 : (Tryz.prog.info? 50).map (·.size) = some q.size := by rw [hq]; kernel_rfl
            have ho6 : (#[Value.int .i64 0, .int .i64 0, .int .i64 0, .string ⟨#[]⟩, .string ⟨#[]⟩, .slice none 0 0] : Array Value).size = q.size := by rw [hq]; rfl
            have h16 : q.all (·.oneCell') = true := by rw [hq]; simp [Value.oneCell']
            have HQ : Hid (q = #[Value.int .i64 A2, .int .i64 S2, .int .i64 (1 + x3), .string key2, .string tx4, .slice xx.u xx.n xx.cap]) := hq
            have HR5 := (show Hid _ from r3)
            rw [← hq] at r3
            clear hxa hxs hxk hxkey hxt hxo hxd hq r0 r1 r2
            obtain ⟨z0, z1, z2, z3, z4, z5⟩ := row_cells HR5.out
            clear r3
            have HG4 := (show Hid _ from HS11.out.row4)
            have HDN := (show Hid _ from HS11.out.done q HXO.out)
            go_wp2_with (refine wpList_store_row rfl 50 _ _ rfl w.heap.size q rfl (congrArg Value.agg HQ.out.symm) 50 _ HG4.out hi6 ho6 h16 ?_)
            refine bodyPost_ret (v := .agg q) (results_cell_row rfl _ _ w.heap.size 50 _ _ _ rfl (setRow_heap _ _ _ _ _ _ HG4.out) Tryz.underlying50 rfl hi6) rfl ⟨xx, ret_val ((congrArg Value.agg HQ.out).trans HRV.out), HDN.out.1, HXD.out, HDN.out.2.1, HDN.out.2.2⟩
      · have hk0I : ¬ (0 : Int) < (k : Int) := by omega
        go_wp2_with fail
        refine (once_any HU.out 40 (by omega) (by omega) _ HSS.out.draw).mono ?_
        rintro e w9 ⟨c9, rfl, hD9, hM9⟩
        have HS9 : Hid (NS W w a len cap R w4.heap.size L (1 + x3) tx4 w9) := HSS.out.step hD9 hM9
        clear hD9 hM9 HSS
        cases c9 with
        | true =>
          go_wp2_with fail
          refine (off1m_any HU.out _ HS9.out.draw).mono ?_
          rintro e w10 ⟨x10, _, _, rfl, hD10, hM10⟩
          have hs10 := HS9.out.step hD10 hM10
          clear hD10 hM10
          obtain ⟨A, S, key, u, q0, q1, q2, q3, q4⟩ := hs10.row5
          have s1 : w10.cell? ⟨w4.heap.size, 1, none⟩ = some (.int .i64 S) := cellN q3
          have s2 : w10.frozen? ⟨w4.heap.size, 1, none⟩ = false := frozN q3
          have HS11 : Hid (NS W w a len cap R w4.heap.size L (1 + x3) tx4 (w10.setCell ⟨w4.heap.size, 1, none⟩ (.int .i64 x10))) := hs10.setAt 1 _ (fun A S key u h0 h1 h2 => ⟨A, x10, key, h0, h1, h2, rfl⟩)
          clear hs10 q0 q1 q2 q3 q4
          obtain ⟨A2, S2, key2, u2, r0, r1, r2, r3, r4⟩ := HS11.out.row5
          obtain ⟨xx, hxu, hxa, hxs, hxk, hxkey, hxt, hxo, hxd⟩ := r4.node (base := w.heap.size) (Nat.le_of_lt HS11.out.apart.2.2.1) (Nat.le_trans HL.out (by decide)) A2 S2 (1 + x3) key2 tx4 ⟨r1, r2⟩ r0 HTX.out
          subst hxu
          have HRV : Hid (Value.agg #[Value.int .i64 A2, .int .i64 S2, .int .i64 (1 + x3), .string key2, .string tx4, .slice xx.u xx.n xx.cap] = .agg #[.int .i64 xx.a, .int .i64 xx.s, .int .i64 xx.k, .string xx.key, .string xx.text, .slice xx.u xx.n xx.cap]) := by show _ = _; rw [hxa, hxs, hxk, hxkey, hxt]
          have HXO : Hid (UpO _ w.heap.size xx) := hxo
          have HXD : Hid (DN L xx) := hxd
          obtain ⟨q, hq⟩ : ∃ q, q = #[Value.int .i64 A2, .int .i64 S2, .int .i64 (1 + x3), .string key2, .string tx4, .slice xx.u xx.n xx.cap] := ⟨_, rfl⟩
          have hi6 : (Tryz.prog.info? 50).map (·.size) = some q.size := by rw [hq]; kernel_rfl
          have ho6 : (#[Value.int .i64 0, .int .i64 0, .int .i64 0, .string ⟨#[]⟩, .string ⟨#[]⟩, .slice none 0 0] : Array Value).size = q.size := by rw [hq]; rfl
          have h16 : q.all (·.oneCell') = true := by rw [hq]; simp [Value.oneCell']
          have HQ : Hid (q = #[Value.int .i64 A2, .int .i64 S2, .int .i64 (1 + x3), .string key2, .string tx4, .slice xx.u xx.n xx.cap]) := hq
          have HR5 := (show Hid _ from r3)
          rw [← hq] at r3
          clear hxa hxs hxk hxkey hxt hxo hxd hq r0 r1 r2
          obtain ⟨z0, z1, z2, z3, z4, z5⟩ := row_cells HR5.out
          clear r3
          have HG4 := (show Hid _ from HS11.out.row4)
          have HDN := (show Hid _ from HS11.out.done q HXO.out)
          go_wp2_with (refine wpList_store_row rfl 50 _ _ rfl w.heap.size q rfl (congrArg Value.agg HQ.out.symm) 50 _ HG4.out hi6 ho6 h16 ?_)
          refine bodyPost_ret (v := .agg q) (results_cell_row rfl _ _ w.heap.size 50 _ _ _ rfl (setRow_heap _ _ _ _ _ _ HG4.out) Tryz.underlying50 rfl hi6) rfl ⟨xx, ret_val ((congrArg Value.agg HQ.out).trans HRV.out), HDN.out.1, HXD.out, HDN.out.2.1, HDN.out.2.2⟩
        | false =>
          have HS11 : Hid (NS W w a len cap R w4.heap.size L (1 + x3) tx4 w9) := HS9.out
          obtain ⟨A2, S2, key2, u2, r0, r1, r2, r3, r4⟩ := HS11.out.row5
          obtain ⟨xx, hxu, hxa, hxs, hxk, hxkey, hxt, hxo, hxd⟩ := r4.node (base := w.heap.size) (Nat.le_of_lt HS11.out.apart.2.2.1) (Nat.le_trans HL.out (by decide)) A2 S2 (1 + x3) key2 tx4 ⟨r1, r2⟩ r0 HTX.out
          subst hxu
          have HRV : Hid (Value.agg #[Value.int .i64 A2, .int .i64 S2, .int .i64 (1 + x3), .string key2, .string tx4, .slice xx.u xx.n xx.cap] = .agg #[.int .i64 xx.a, .int .i64 xx.s, .int .i64 xx.k, .string xx.key, .string xx.text, .slice xx.u xx.n xx.cap]) := by show _ = _; rw [hxa, hxs, hxk, hxkey, hxt]
          have HXO : Hid (UpO _ w.heap.size xx) := hxo
          have HXD : Hid (DN L xx) := hxd
          obtain ⟨q, hq⟩ : ∃ q, q = #[Value.int .i64 A2, .int .i64 S2, .int .i64 (1 + x3), .string key2, .string tx4, .slice xx.u xx.n xx.cap] := ⟨_, rfl⟩
          have hi6 : (Tryz.prog.info? 50).map (·.size) = some q.size := by rw [hq]; kernel_rfl
          have ho6 : (#[Value.int .i64 0, .int .i64 0, .int .i64 0, .string ⟨#[]⟩, .string ⟨#[]⟩, .slice none 0 0] : Array Value).size = q.size := by rw [hq]; rfl
          have h16 : q.all (·.oneCell') = true := by rw [hq]; simp [Value.oneCell']
          have HQ : Hid (q = #[Value.int .i64 A2, .int .i64 S2, .int .i64 (1 + x3), .string key2, .string tx4, .slice xx.u xx.n xx.cap]) := hq
          have HR5 := (show Hid _ from r3)
          rw [← hq] at r3
          clear hxa hxs hxk hxkey hxt hxo hxd hq r0 r1 r2
          obtain ⟨z0, z1, z2, z3, z4, z5⟩ := row_cells HR5.out
          clear r3
          have HG4 := (show Hid _ from HS11.out.row4)
          have HDN := (show Hid _ from HS11.out.done q HXO.out)
          go_wp2_with (refine wpList_store_row rfl 50 _ _ rfl w.heap.size q rfl (congrArg Value.agg HQ.out.symm) 50 _ HG4.out hi6 ho6 h16 ?_)
          refine bodyPost_ret (v := .agg q) (results_cell_row rfl _ _ w.heap.size 50 _ _ _ rfl (setRow_heap _ _ _ _ _ _ HG4.out) Tryz.underlying50 rfl hi6) rfl ⟨xx, ret_val ((congrArg Value.agg HQ.out).trans HRV.out), HDN.out.1, HXD.out, HDN.out.2.1, HDN.out.2.2⟩
  | true =>
    go_wp2_with fail
    rw [← HW5.out]
    refine (below_any HU.out 2 (by omega) (by omega) _ (HS5.out.draw.alloc _)).mono ?_
    rintro e w6 ⟨x6, hx60, hx61, rfl, hD6, hM6⟩
    have hs6 : NS W w a len cap R w4.heap.size L (1 + x3) tx4 w6 := HS5.out.step hD6 (((Mut.refl R w5).alloc _).trans hM6)
    have HS6 : Hid (NS W w a len cap R w4.heap.size L (1 + x3) tx4 w6) := hs6
    have hz5 : w5.heap.size = w4.heap.size + 1 := by rw [HW5.out]; simp
    have hl6 := fun i => lit_cells hM6 HS5.out.draw.lt i
    rw [hz5] at hl6
    have g0 : w6.cell? ⟨w4.heap.size + 1, 0, none⟩ = some (.string ⟨#[120]⟩) := hl6 0
    have g1 : w6.cell? ⟨w4.heap.size + 1, 1, none⟩ = some (.string ⟨#[121]⟩) := hl6 1
    obtain ⟨A, S, key, u, q0, q1, q2, q3, q4⟩ := hs6.row5
    have s1 : w6.cell? ⟨w4.heap.size, 3, none⟩ = some (.string key) := cellN q3
    have s2 : w6.frozen? ⟨w4.heap.size, 3, none⟩ = false := frozN q3
    clear hD6 hM6 hl6 hs6 q0 q1 q2 q3 q4 HW5 HS5 hz5
    rcases (show x6 = 0 ∨ x6 = 1 by omega) with rfl | rfl
    · go_wp2_with fail
      obtain ⟨w7, hw7⟩ : ∃ w7, w7 = w6.setCell ⟨w4.heap.size, 3, none⟩ (.string ⟨#[120]⟩) := ⟨_, rfl⟩
      rw [← hw7]
      have HS7 : Hid (NS W w a len cap R w4.heap.size L (1 + x3) tx4 w7) := by rw [hw7]; exact HS6.out.setAt 3 _ (fun A S key u h0 h1 h2 => ⟨A, S, ⟨#[120]⟩, by decide, h1, h2, rfl⟩)
      clear hw7 HS6 g0 g1 s1 s2
      refine (below_any HU.out 3 (by omega) (by omega) _ HS7.out.draw).mono ?_
      rintro e w8 ⟨x8, hx80, hx81, rfl, hD8, hM8⟩
      have HS8 : Hid (NS W w a len cap R w4.heap.size L (1 + x3) tx4 w8) := HS7.out.step hD8 hM8
      obtain ⟨k8, hk8⟩ : ∃ k : Nat, x8 = k := ⟨x8.toNat, by omega⟩
      subst hk8
      have HK8 : Hid (k8 ≤ 2) := by show k8 ≤ 2; omega
      clear hD8 hM8 HS7 hx80 hx81
      go_wp2_with fail
      go_loopw [6] (fun i wr => ∃ k : Nat, k ≤ 2 ∧ i = .int .i64 k ∧ Hid (NS W w a len cap R w4.heap.size L (1 + x3) tx4 wr)) (fun i _ => (intOf i).toNat)
      case atStart => exact ⟨k8, HK8.out, rfl, HS8⟩
      case round =>
        obtain ⟨k, hk, rfl, HSS⟩ := hrel
        clear HS8
        by_cases hk0 : 0 < k
        · have hk0I : (0 : Int) < (k : Int) := by omega
          by_cases hn0 : 0 < n
          · have hn0I : (0 : Int) < (n : Int) := by omega
            go_wp2_with fail
            obtain ⟨b5, hb5⟩ : ∃ b5, b5 = w4.heap.size := ⟨_, rfl⟩
            have hnL := HN.out
            rw [← hb5] at HSS ⊢
            refine wp_letter ?_
            intro fr hfr
            have hsz : 50 < fr.tmps.size := by rw [hfr]; exact Nat.le_of_ble_eq_true rfl
            have t0 : fr.eval (.tmp 0) = .pointer (some ⟨R, 0, none⟩) := by rw [hfr]; rfl
            have t1 : fr.eval (.tmp 1) = .slice (some ⟨g, 0, none⟩) L.length gc := by rw [hfr, ← hnL]; rfl
            have t5 : fr.eval (.tmp 5) = .pointer (some ⟨b5, 0, none⟩) := by rw [hfr]; rfl
            have HFR := (show Hid _ from hfr)
            have HRb : Hid (R < b5) := by rw [hb5]; exact HA4
            have hLg : L.length ≤ gc := by rw [← hnL]; exact HGC.out.1
            have hLp : 1 ≤ L.length := by rw [← hnL]; exact hn0
            have HB5 := (show Hid _ from hb5)
            clear hfr hb5
            refine wp_region_rel (Rel := NRel W w a len cap R b5 L (1 + x3) tx4) (fun w => ⟨fun h => h, Nat.le_refl _, fun _ _ _ => rfl⟩) (fun h k => ⟨fun q => k.1 (h.1 q), Nat.le_trans h.2.1 k.2.1, fun i h1 h2 => (k.2.2 i h1 (Nat.lt_of_lt_of_le h2 h.2.1)).trans (h.2.2 i h1 h2)⟩) (fun v => NRel.of_below ⟨rfl, rfl, rfl, Nat.le_refl _, fun _ _ => rfl⟩) (by kernel_rfl) (by kernel_rfl) dsN slotN (NF R g gc b5 L) (fun j v u u' h r => NF.keep j v u u' h r.2.2) ?_ ?_ ?_ ?_
            · intro i hi
              exact slotN_mem i hi
            · intro i j hi hj q
              exact slotN_inj i j hi hj q
            · intro ops hops f wy i o hy ho hd
              have ho2 := ho
              rw [hops] at ho
              have hi : i < 13 := by
                rcases Nat.lt_or_ge i 13 with h | h
                · exact h
                · rw [Array.getElem?_eq_none (by simpa using h)] at ho; cases ho
              have hS := hy.1 HSS.out
              have hi' : i = 0 ∨ i = 1 ∨ i = 2 ∨ i = 3 ∨ i = 4 ∨ i = 5 ∨ i = 6 ∨ i = 7 ∨ i = 8 ∨ i = 9 ∨ i = 10 ∨ i = 11 ∨ i = 12 := by omega
              clear hops
              rcases hi' with rfl | rfl | rfl | rfl | rfl | rfl | rfl | rfl | rfl | rfl | rfl | rfl | rfl <;> simp only [List.getElem?_toArray, List.getElem?_cons_succ, List.getElem?_cons_zero, Option.some.injEq] at ho <;> subst ho
              · refine wpOp_runG ho2 (wanted_none rfl) (n_field5 (canon fr dsN f).eval _ wy _ b5 rfl ((canon_eval_ne fr dsN f 5 (by decide)).trans t5)) ?_
                exact ⟨_, rfl, rfl, NRel.refl wy⟩
              · obtain ⟨A, S, key, u, q0, q1, q2, q3, q4⟩ := hS.row5
                refine wpOp_runG ho2 (wanted_none rfl) (n_loadU (canon fr dsN f).eval _ wy _ b5 u rfl ((canon_eval fr dsN f 39 (by decide) (Nat.lt_of_le_of_lt (by decide) hsz)).trans (hd ⟨0, .data⟩ (by simp) rfl)) (cellN q3)) ?_
                exact ⟨_, rfl, q4, NRel.refl wy⟩
              · refine wpOp_runG ho2 (wanted_none rfl) (n_move (canon fr dsN f).eval _ wy _ rfl) ?_
                exact ⟨_, rfl, (canon_eval_ne fr dsN f 1 (by decide)).trans t1, NRel.refl wy⟩
              · refine wpOp_runG ho2 (wanted_none rfl) (n_move (canon fr dsN f).eval _ wy _ rfl) ?_
                exact ⟨_, rfl, (canon_eval_ne fr dsN f 0 (by decide)).trans t0, NRel.refl wy⟩
              · refine wpOp_runG ho2 (wanted_none rfl) (n_move (canon fr dsN f).eval _ wy _ rfl) ?_
                exact ⟨_, rfl, (canon_eval_ne fr dsN f 1 (by decide)).trans t1, NRel.refl wy⟩
              · refine wpOp_runG ho2 (wanted_none rfl) (n_len (canon fr dsN f).eval _ wy _ _ _ gc rfl ((canon_eval fr dsN f 43 (by decide) (Nat.lt_of_le_of_lt (by decide) hsz)).trans (hd ⟨4, .data⟩ (by simp) rfl)) hLg HGC.out.2) ?_
                exact ⟨_, rfl, rfl, NRel.refl wy⟩
              · refine wpOp_enterG ho2 (wanted_none rfl) (n_call2 (canon fr dsN f).eval _ wy _ HEN1.out _ _ _ rfl rfl) ?_
                rw [(canon_eval fr dsN f 42 (by decide) (Nat.lt_of_le_of_lt (by decide) hsz)).trans (hd ⟨3, .data⟩ (by simp) rfl), (canon_eval fr dsN f 44 (by decide) (Nat.lt_of_le_of_lt (by decide) hsz)).trans (hd ⟨5, .data⟩ (by simp) rfl)]
                refine (belowN_any HU.out L.length hLp (by have := HL.out; omega) wy hS.draw).mono ?_
                rintro e wz ⟨y, hy1, rfl, hDz, hMz⟩
                exact ⟨_, rfl, _, rfl, ⟨y, hy1, rfl⟩, NRel.of_mut hDz hMz HRb.out⟩
              · obtain ⟨y, hy1, hyv⟩ := hd ⟨6, .data⟩ (by simp) rfl
                refine wpOp_runG ho2 (wanted_none rfl) (n_idx (canon fr dsN f).eval _ wy _ _ g L.length gc y rfl ((canon_eval fr dsN f 41 (by decide) (Nat.lt_of_le_of_lt (by decide) hsz)).trans (hd ⟨2, .data⟩ (by simp) rfl)) ((canon_eval fr dsN f 45 (by decide) (Nat.lt_of_le_of_lt (by decide) hsz)).trans hyv) hy1 hLg HGC.out.2) ?_
                exact ⟨_, rfl, ⟨y, hy1, rfl⟩, NRel.refl wy⟩
              · obtain ⟨y, hy1, hyv⟩ := hd ⟨7, .data⟩ (by simp) rfl
                have hOy := hS.own HO.out HBR.out.1
                refine wpOp_runG ho2 (wanted_none rfl) (n_loadN (canon fr dsN f).eval _ wy _ g _ (gN L y) rfl ((canon_eval fr dsN f 46 (by decide) (Nat.lt_of_le_of_lt (by decide) hsz)).trans hyv) (ownD_at hOy hy1).1) ?_
                exact ⟨_, rfl, ⟨y, hy1, rfl⟩, NRel.refl wy⟩
              · obtain ⟨y, hy1, hyv⟩ := hd ⟨8, .data⟩ (by simp) rfl
                have hOy := hS.own HO.out HBR.out.1
                have hf := (show Fine (gN L) L.length from HF.out) y hy1
                refine wpOp_enterG ho2 (wanted_none rfl) (n_call1 (canon fr dsN f).eval _ wy _ HEN2.out _ _ rfl rfl) ?_
                rw [(canon_eval fr dsN f 47 (by decide) (Nat.lt_of_le_of_lt (by decide) hsz)).trans hyv]
                refine (specIdOf_any _ _ _ _ _ _ _ _ (gN L y).S wy (ownD_at hOy hy1).2 hf.2.2 hf.1 hf.2.1).mono ?_
                rintro e wz ⟨rfl, hBz⟩
                exact ⟨_, rfl, _, rfl, ⟨y, hy1, rfl⟩, NRel.of_below hBz⟩
              · obtain ⟨y, hy1, hyv⟩ := hd ⟨9, .data⟩ (by simp) rfl
                obtain ⟨T, hT0, hT1, hT2⟩ := (show UpsV L b5 (f 40) wy from hd ⟨1, .data⟩ (by simp) rfl)
                have hTl : T.length ≤ L.length := up_len hT1 hT2
                refine wpOp_enterG ho2 (wanted_none rfl) (n_call2 (canon fr dsN f).eval _ wy _ HEN3.out _ _ _ rfl rfl) ?_
                rw [canon_eval fr dsN f 40 (by decide) (Nat.lt_of_le_of_lt (by decide) hsz), (canon_eval fr dsN f 48 (by decide) (Nat.lt_of_le_of_lt (by decide) hsz)).trans hyv]
                refine (l1PutL_any (b5 + 1) (f 40) T _ wy hT0 (by have := HL.out; omega)).mono ?_
                rintro e wz ⟨v', rfl, hOz, hBz⟩
                exact ⟨_, rfl, _, rfl, UpsV.put hy1 hT2 hT1 hS.apart.2.2.2 hOz, NRel.of_below hBz⟩
              · refine wpOp_runG ho2 (wanted_none rfl) (n_field5 (canon fr dsN f).eval _ wy _ b5 rfl ((canon_eval_ne fr dsN f 5 (by decide)).trans t5)) ?_
                exact ⟨_, rfl, rfl, NRel.refl wy⟩
              · have hv := (show UpsV L b5 (f 49) wy from hd ⟨10, .data⟩ (by simp) rfl)
                obtain ⟨u, m, c, hu⟩ := hv.slice
                rw [hu] at hv
                obtain ⟨A, S, key, u0, q0, q1, q2, q3, q4⟩ := hS.row5
                refine wpOp_runS ho2 (wanted_none rfl) (n_storeU (canon fr dsN f).eval _ wy _ _ b5 u0 u m c rfl ((canon_eval fr dsN f 50 (by decide) (Nat.lt_of_le_of_lt (by decide) hsz)).trans (hd ⟨11, .data⟩ (by simp) rfl)) ((canon_eval fr dsN f 49 (by decide) (Nat.lt_of_le_of_lt (by decide) hsz)).trans hu) (cellN q3) (frozN q3)) ?_
                exact ⟨_, (canon_put_same fr dsN f 38 (by decide)).symm, trivial, NRel.of_set hv⟩
            · intro f wy hy hall
              have HSY : Hid (NS W w a len cap R b5 L (1 + x3) tx4 wy) := hy.1 HSS.out
              rw [HFR.out]
              have e5 := HB5.out
              subst e5
              simp only [canon, dsN, List.foldl, Act.put, List.setIfInBounds_toArray, List.set_cons_succ, List.set_cons_zero]
              clear hy hall t0 t1 t5 HFR hsz
              go_wp2
              exact ⟨⟨k - 1, by omega, by go_num, HSY⟩, by simp [intOf]; omega⟩
          · have hn0I : ¬ (0 : Int) < (n : Int) := by omega
            go_wp2_with fail
            refine (once_any HU.out 40 (by omega) (by omega) _ HSS.out.draw).mono ?_
            rintro e w9 ⟨c9, rfl, hD9, hM9⟩
            have HS9 : Hid (NS W w a len cap R w4.heap.size L (1 + x3) tx4 w9) := HSS.out.step hD9 hM9
            clear hD9 hM9 HSS
            cases c9 with
            | true =>
              go_wp2_with fail
              refine (off1m_any HU.out _ HS9.out.draw).mono ?_
              rintro e w10 ⟨x10, _, _, rfl, hD10, hM10⟩
              have hs10 := HS9.out.step hD10 hM10
              clear hD10 hM10
              obtain ⟨A, S, key, u, q0, q1, q2, q3, q4⟩ := hs10.row5
              have s1 : w10.cell? ⟨w4.heap.size, 1, none⟩ = some (.int .i64 S) := cellN q3
              have s2 : w10.frozen? ⟨w4.heap.size, 1, none⟩ = false := frozN q3
              have HS11 : Hid (NS W w a len cap R w4.heap.size L (1 + x3) tx4 (w10.setCell ⟨w4.heap.size, 1, none⟩ (.int .i64 x10))) := hs10.setAt 1 _ (fun A S key u h0 h1 h2 => ⟨A, x10, key, h0, h1, h2, rfl⟩)
              clear hs10 q0 q1 q2 q3 q4
              obtain ⟨A2, S2, key2, u2, r0, r1, r2, r3, r4⟩ := HS11.out.row5
              obtain ⟨xx, hxu, hxa, hxs, hxk, hxkey, hxt, hxo, hxd⟩ := r4.node (base := w.heap.size) (Nat.le_of_lt HS11.out.apart.2.2.1) (Nat.le_trans HL.out (by decide)) A2 S2 (1 + x3) key2 tx4 ⟨r1, r2⟩ r0 HTX.out
              subst hxu
              have HRV : Hid (Value.agg #[Value.int .i64 A2, .int .i64 S2, .int .i64 (1 + x3), .string key2, .string tx4, .slice xx.u xx.n xx.cap] = .agg #[.int .i64 xx.a, .int .i64 xx.s, .int .i64 xx.k, .string xx.key, .string xx.text, .slice xx.u xx.n xx.cap]) := by show _ = _; rw [hxa, hxs, hxk, hxkey, hxt]
              have HXO : Hid (UpO _ w.heap.size xx) := hxo
              have HXD : Hid (DN L xx) := hxd
              obtain ⟨q, hq⟩ : ∃ q, q = #[Value.int .i64 A2, .int .i64 S2, .int .i64 (1 + x3), .string key2, .string tx4, .slice xx.u xx.n xx.cap] := ⟨_, rfl⟩
              have hi6 : (Tryz.prog.info? 50).map (·.size) = some q.size := by rw [hq]; kernel_rfl
              have ho6 : (#[Value.int .i64 0, .int .i64 0, .int .i64 0, .string ⟨#[]⟩, .string ⟨#[]⟩, .slice none 0 0] : Array Value).size = q.size := by rw [hq]; rfl
              have h16 : q.all (·.oneCell') = true := by rw [hq]; simp [Value.oneCell']
              have HQ : Hid (q = #[Value.int .i64 A2, .int .i64 S2, .int .i64 (1 + x3), .string key2, .string tx4, .slice xx.u xx.n xx.cap]) := hq
              have HR5 := (show Hid _ from r3)
              rw [← hq] at r3
              clear hxa hxs hxk hxkey hxt hxo hxd hq r0 r1 r2
              obtain ⟨z0, z1, z2, z3, z4, z5⟩ := row_cells HR5.out
              clear r3
              have HG4 := (show Hid _ from HS11.out.row4)
              have HDN := (show Hid _ from HS11.out.done q HXO.out)
              go_wp2_with (refine wpList_store_row rfl 50 _ _ rfl w.heap.size q rfl (congrArg Value.agg HQ.out.symm) 50 _ HG4.out hi6 ho6 h16 ?_)
              refine bodyPost_ret (v := .agg q) (results_cell_row rfl _ _ w.heap.size 50 _ _ _ rfl (setRow_heap _ _ _ _ _ _ HG4.out) Tryz.underlying50 rfl hi6) rfl ⟨xx, ret_val ((congrArg Value.agg HQ.out).trans HRV.out), HDN.out.1, HXD.out, HDN.out.2.1, HDN.out.2.2⟩
            | false =>
              have HS11 : Hid (NS W w a len cap R w4.heap.size L (1 + x3) tx4 w9) := HS9.out
              obtain ⟨A2, S2, key2, u2, r0, r1, r2, r3, r4⟩ := HS11.out.row5
              obtain ⟨xx, hxu, hxa, hxs, hxk, hxkey, hxt, hxo, hxd⟩ := r4.node (base := w.heap.size) (Nat.le_of_lt HS11.out.apart.2.2.1) (Nat.le_trans HL.out (by decide)) A2 S2 (1 + x3) key2 tx4 ⟨r1, r2⟩ r0 HTX.out
              subst hxu
              have HRV : Hid (Value.agg #[Value.int .i64 A2, .int .i64 S2, .int .i64 (1 + x3), .string key2, .string tx4, .slice xx.u xx.n xx.cap] = .agg #[.int .i64 xx.a, .int .i64 xx.s, .int .i64 xx.k, .string xx.key, .string xx.text, .slice xx.u xx.n xx.cap]) := by show _ = _; rw [hxa, hxs, hxk, hxkey, hxt]
              have HXO : Hid (UpO _ w.heap.size xx) := hxo
              have HXD : Hid (DN L xx) := hxd
              obtain ⟨q, hq⟩ : ∃ q, q = #[Value.int .i64 A2, .int .i64 S2, .int .i64 (1 + x3), .string key2, .string tx4, .slice xx.u xx.n xx.cap] := ⟨_, rfl⟩
              have hi6 : (Tryz.prog.info? 50).map (·.size) = some q.size := by rw [hq]; kernel_rfl
              have ho6 : (#[Value.int .i64 0, .int .i64 0, .int .i64 0, .string ⟨#[]⟩, .string ⟨#[]⟩, .slice none 0 0] : Array Value).size = q.size := by rw [hq]; rfl
              have h16 : q.all (·.oneCell') = true := by rw [hq]; simp [Value.oneCell']
              have HQ : Hid (q = #[Value.int .i64 A2, .int .i64 S2, .int .i64 (1 + x3), .string key2, .string tx4, .slice xx.u xx.n xx.cap]) := hq
              have HR5 := (show Hid _ from r3)
              rw [← hq] at r3
              clear hxa hxs hxk hxkey hxt hxo hxd hq r0 r1 r2
              obtain ⟨z0, z1, z2, z3, z4, z5⟩ := row_cells HR5.out
              clear r3
              have HG4 := (show Hid _ from HS11.out.row4)
              have HDN := (show Hid _ from HS11.out.done q HXO.out)
              go_wp2_with (refine wpList_store_row rfl 50 _ _ rfl w.heap.size q rfl (congrArg Value.agg HQ.out.symm) 50 _ HG4.out hi6 ho6 h16 ?_)
              refine bodyPost_ret (v := .agg q) (results_cell_row rfl _ _ w.heap.size 50 _ _ _ rfl (setRow_heap _ _ _ _ _ _ HG4.out) Tryz.underlying50 rfl hi6) rfl ⟨xx, ret_val ((congrArg Value.agg HQ.out).trans HRV.out), HDN.out.1, HXD.out, HDN.out.2.1, HDN.out.2.2⟩
        · have hk0I : ¬ (0 : Int) < (k : Int) := by omega
          go_wp2_with fail
          refine (once_any HU.out 40 (by omega) (by omega) _ HSS.out.draw).mono ?_
          rintro e w9 ⟨c9, rfl, hD9, hM9⟩
          have HS9 : Hid (NS W w a len cap R w4.heap.size L (1 + x3) tx4 w9) := HSS.out.step hD9 hM9
          clear hD9 hM9 HSS
          cases c9 with
          | true =>
            go_wp2_with fail
            refine (off1m_any HU.out _ HS9.out.draw).mono ?_
            rintro e w10 ⟨x10, _, _, rfl, hD10, hM10⟩
            have hs10 := HS9.out.step hD10 hM10
            clear hD10 hM10
            obtain ⟨A, S, key, u, q0, q1, q2, q3, q4⟩ := hs10.row5
            have s1 : w10.cell? ⟨w4.heap.size, 1, none⟩ = some (.int .i64 S) := cellN q3
            have s2 : w10.frozen? ⟨w4.heap.size, 1, none⟩ = false := frozN q3
            have HS11 : Hid (NS W w a len cap R w4.heap.size L (1 + x3) tx4 (w10.setCell ⟨w4.heap.size, 1, none⟩ (.int .i64 x10))) := hs10.setAt 1 _ (fun A S key u h0 h1 h2 => ⟨A, x10, key, h0, h1, h2, rfl⟩)
            clear hs10 q0 q1 q2 q3 q4
            obtain ⟨A2, S2, key2, u2, r0, r1, r2, r3, r4⟩ := HS11.out.row5
            obtain ⟨xx, hxu, hxa, hxs, hxk, hxkey, hxt, hxo, hxd⟩ := r4.node (base := w.heap.size) (Nat.le_of_lt HS11.out.apart.2.2.1) (Nat.le_trans HL.out (by decide)) A2 S2 (1 + x3) key2 tx4 ⟨r1, r2⟩ r0 HTX.out
            subst hxu
            have HRV : Hid (Value.agg #[Value.int .i64 A2, .int .i64 S2, .int .i64 (1 + x3), .string key2, .string tx4, .slice xx.u xx.n xx.cap] = .agg #[.int .i64 xx.a, .int .i64 xx.s, .int .i64 xx.k, .string xx.key, .string xx.text, .slice xx.u xx.n xx.cap]) := by show _ = _; rw [hxa, hxs, hxk, hxkey, hxt]
            have HXO : Hid (UpO _ w.heap.size xx) := hxo
            have HXD : Hid (DN L xx) := hxd
            obtain ⟨q, hq⟩ : ∃ q, q = #[Value.int .i64 A2, .int .i64 S2, .int .i64 (1 + x3), .string key2, .string tx4, .slice xx.u xx.n xx.cap] := ⟨_, rfl⟩
            have hi6 : (Tryz.prog.info? 50).map (·.size) = some q.size := by rw [hq]; kernel_rfl
            have ho6 : (#[Value.int .i64 0, .int .i64 0, .int .i64 0, .string ⟨#[]⟩, .string ⟨#[]⟩, .slice none 0 0] : Array Value).size = q.size := by rw [hq]; rfl
            have h16 : q.all (·.oneCell') = true := by rw [hq]; simp [Value.oneCell']
            have HQ : Hid (q = #[Value.int .i64 A2, .int .i64 S2, .int .i64 (1 + x3), .string key2, .string tx4, .slice xx.u xx.n xx.cap]) := hq
            have HR5 := (show Hid _ from r3)
            rw [← hq] at r3
            clear hxa hxs hxk hxkey hxt hxo hxd hq r0 r1 r2
            obtain ⟨z0, z1, z2, z3, z4, z5⟩ := row_cells HR5.out
            clear r3
            have HG4 := (show Hid _ from HS11.out.row4)
            have HDN := (show Hid _ from HS11.out.done q HXO.out)
            go_wp2_with (refine wpList_store_row rfl 50 _ _ rfl w.heap.size q rfl (congrArg Value.agg HQ.out.symm) 50 _ HG4.out hi6 ho6 h16 ?_)
            refine bodyPost_ret (v := .agg q) (results_cell_row rfl _ _ w.heap.size 50 _ _ _ rfl (setRow_heap _ _ _ _ _ _ HG4.out) Tryz.underlying50 rfl hi6) rfl ⟨xx, ret_val ((congrArg Value.agg HQ.out).trans HRV.out), HDN.out.1, HXD.out, HDN.out.2.1, HDN.out.2.2⟩
          | false =>
            have HS11 : Hid (NS W w a len cap R w4.heap.size L (1 + x3) tx4 w9) := HS9.out
            obtain ⟨A2, S2, key2, u2, r0, r1, r2, r3, r4⟩ := HS11.out.row5
            obtain ⟨xx, hxu, hxa, hxs, hxk, hxkey, hxt, hxo, hxd⟩ := r4.node (base := w.heap.size) (Nat.le_of_lt HS11.out.apart.2.2.1) (Nat.le_trans HL.out (by decide)) A2 S2 (1 + x3) key2 tx4 ⟨r1, r2⟩ r0 HTX.out
            subst hxu
            have HRV : Hid (Value.agg #[Value.int .i64 A2, .int .i64 S2, .int .i64 (1 + x3), .string key2, .string tx4, .slice xx.u xx.n xx.cap] = .agg #[.int .i64 xx.a, .int .i64 xx.s, .int .i64 xx.k, .string xx.key, .string xx.text, .slice xx.u xx.n xx.cap]) := by show _ = _; rw [hxa, hxs, hxk, hxkey, hxt]
            have HXO : Hid (UpO _ w.heap.size xx) := hxo
            have HXD : Hid (DN L xx) := hxd
            obtain ⟨q, hq⟩ : ∃ q, q = #[Value.int .i64 A2, .int .i64 S2, .int .i64 (1 + x3), .string key2, .string tx4, .slice xx.u xx.n xx.cap] := ⟨_, rfl⟩
            have hi6 : (Tryz.prog.info? 50).map (·.size) = some q.size := by rw [hq]; kernel_rfl
            have ho6 : (#[Value.int .i64 0, .int .i64 0, .int .i64 0, .string ⟨#[]⟩, .string ⟨#[]⟩, .slice none 0 0] : Array Value).size = q.size := by rw [hq]; rfl
            have h16 : q.all (·.oneCell') = true := by rw [hq]; simp [Value.oneCell']
            have HQ : Hid (q = #[Value.int .i64 A2, .int .i64 S2, .int .i64 (1 + x3), .string key2, .string tx4, .slice xx.u xx.n xx.cap]) := hq
            have HR5 := (show Hid _ from r3)
            rw [← hq] at r3
            clear hxa hxs hxk hxkey hxt hxo hxd hq r0 r1 r2
            obtain ⟨z0, z1, z2, z3, z4, z5⟩ := row_cells HR5.out
            clear r3
            have HG4 := (show Hid _ from HS11.out.row4)
            have HDN := (show Hid _ from HS11.out.done q HXO.out)
            go_wp2_with (refine wpList_store_row rfl 50 _ _ rfl w.heap.size q rfl (congrArg Value.agg HQ.out.symm) 50 _ HG4.out hi6 ho6 h16 ?_)
            refine bodyPost_ret (v := .agg q) (results_cell_row rfl _ _ w.heap.size 50 _ _ _ rfl (setRow_heap _ _ _ _ _ _ HG4.out) Tryz.underlying50 rfl hi6) rfl ⟨xx, ret_val ((congrArg Value.agg HQ.out).trans HRV.out), HDN.out.1, HXD.out, HDN.out.2.1, HDN.out.2.2⟩
    · go_wp2_with fail
      obtain ⟨w7, hw7⟩ : ∃ w7, w7 = w6.setCell ⟨w4.heap.size, 3, none⟩ (.string ⟨#[121]⟩) := ⟨_, rfl⟩
      rw [← hw7]
      have HS7 : Hid (NS W w a len cap R w4.heap.size L (1 + x3) tx4 w7) := by rw [hw7]; exact HS6.out.setAt 3 _ (fun A S key u h0 h1 h2 => ⟨A, S, ⟨#[121]⟩, by decide, h1, h2, rfl⟩)
      clear hw7 HS6 g0 g1 s1 s2
      refine (below_any HU.out 3 (by omega) (by omega) _ HS7.out.draw).mono ?_
      rintro e w8 ⟨x8, hx80, hx81, rfl, hD8, hM8⟩
      have HS8 : Hid (NS W w a len cap R w4.heap.size L (1 + x3) tx4 w8) := HS7.out.step hD8 hM8
      obtain ⟨k8, hk8⟩ : ∃ k : Nat, x8 = k := ⟨x8.toNat, by omega⟩
      subst hk8
      have HK8 : Hid (k8 ≤ 2) := by show k8 ≤ 2; omega
      clear hD8 hM8 HS7 hx80 hx81
      go_wp2_with fail
      go_loopw [6] (fun i wr => ∃ k : Nat, k ≤ 2 ∧ i = .int .i64 k ∧ Hid (NS W w a len cap R w4.heap.size L (1 + x3) tx4 wr)) (fun i _ => (intOf i).toNat)
      case atStart => exact ⟨k8, HK8.out, rfl, HS8⟩
      case round =>
        obtain ⟨k, hk, rfl, HSS⟩ := hrel
        clear HS8
        by_cases hk0 : 0 < k
        · have hk0I : (0 : Int) < (k : Int) := by omega
          by_cases hn0 : 0 < n
          · have hn0I : (0 : Int) < (n : Int) := by omega
            go_wp2_with fail
            obtain ⟨b5, hb5⟩ : ∃ b5, b5 = w4.heap.size := ⟨_, rfl⟩
            have hnL := HN.out
            rw [← hb5] at HSS ⊢
            refine wp_letter ?_
            intro fr hfr
            have hsz : 50 < fr.tmps.size := by rw [hfr]; exact Nat.le_of_ble_eq_true rfl
            have t0 : fr.eval (.tmp 0) = .pointer (some ⟨R, 0, none⟩) := by rw [hfr]; rfl
            have t1 : fr.eval (.tmp 1) = .slice (some ⟨g, 0, none⟩) L.length gc := by rw [hfr, ← hnL]; rfl
            have t5 : fr.eval (.tmp 5) = .pointer (some ⟨b5, 0, none⟩) := by rw [hfr]; rfl
            have HFR := (show Hid _ from hfr)
            have HRb : Hid (R < b5) := by rw [hb5]; exact HA4
            have hLg : L.length ≤ gc := by rw [← hnL]; exact HGC.out.1
            have hLp : 1 ≤ L.length := by rw [← hnL]; exact hn0
            have HB5 := (show Hid _ from hb5)
            clear hfr hb5
            refine wp_region_rel (Rel := NRel W w a len cap R b5 L (1 + x3) tx4) (fun w => ⟨fun h => h, Nat.le_refl _, fun _ _ _ => rfl⟩) (fun h k => ⟨fun q => k.1 (h.1 q), Nat.le_trans h.2.1 k.2.1, fun i h1 h2 => (k.2.2 i h1 (Nat.lt_of_lt_of_le h2 h.2.1)).trans (h.2.2 i h1 h2)⟩) (fun v => NRel.of_below ⟨rfl, rfl, rfl, Nat.le_refl _, fun _ _ => rfl⟩) (by kernel_rfl) (by kernel_rfl) dsN slotN (NF R g gc b5 L) (fun j v u u' h r => NF.keep j v u u' h r.2.2) ?_ ?_ ?_ ?_
            · intro i hi
              exact slotN_mem i hi
            · intro i j hi hj q
              exact slotN_inj i j hi hj q
            · intro ops hops f wy i o hy ho hd
              have ho2 := ho
              rw [hops] at ho
              have hi : i < 13 := by
                rcases Nat.lt_or_ge i 13 with h | h
                · exact h
                · rw [Array.getElem?_eq_none (by simpa using h)] at ho; cases ho
              have hS := hy.1 HSS.out
              have hi' : i = 0 ∨ i = 1 ∨ i = 2 ∨ i = 3 ∨ i = 4 ∨ i = 5 ∨ i = 6 ∨ i = 7 ∨ i = 8 ∨ i = 9 ∨ i = 10 ∨ i = 11 ∨ i = 12 := by omega
              clear hops
              rcases hi' with rfl | rfl | rfl | rfl | rfl | rfl | rfl | rfl | rfl | rfl | rfl | rfl | rfl <;> simp only [List.getElem?_toArray, List.getElem?_cons_succ, List.getElem?_cons_zero, Option.some.injEq] at ho <;> subst ho
              · refine wpOp_runG ho2 (wanted_none rfl) (n_field5 (canon fr dsN f).eval _ wy _ b5 rfl ((canon_eval_ne fr dsN f 5 (by decide)).trans t5)) ?_
                exact ⟨_, rfl, rfl, NRel.refl wy⟩
              · obtain ⟨A, S, key, u, q0, q1, q2, q3, q4⟩ := hS.row5
                refine wpOp_runG ho2 (wanted_none rfl) (n_loadU (canon fr dsN f).eval _ wy _ b5 u rfl ((canon_eval fr dsN f 39 (by decide) (Nat.lt_of_le_of_lt (by decide) hsz)).trans (hd ⟨0, .data⟩ (by simp) rfl)) (cellN q3)) ?_
                exact ⟨_, rfl, q4, NRel.refl wy⟩
              · refine wpOp_runG ho2 (wanted_none rfl) (n_move (canon fr dsN f).eval _ wy _ rfl) ?_
                exact ⟨_, rfl, (canon_eval_ne fr dsN f 1 (by decide)).trans t1, NRel.refl wy⟩
              · refine wpOp_runG ho2 (wanted_none rfl) (n_move (canon fr dsN f).eval _ wy _ rfl) ?_
                exact ⟨_, rfl, (canon_eval_ne fr dsN f 0 (by decide)).trans t0, NRel.refl wy⟩
              · refine wpOp_runG ho2 (wanted_none rfl) (n_move (canon fr dsN f).eval _ wy _ rfl) ?_
                exact ⟨_, rfl, (canon_eval_ne fr dsN f 1 (by decide)).trans t1, NRel.refl wy⟩
              · refine wpOp_runG ho2 (wanted_none rfl) (n_len (canon fr dsN f).eval _ wy _ _ _ gc rfl ((canon_eval fr dsN f 43 (by decide) (Nat.lt_of_le_of_lt (by decide) hsz)).trans (hd ⟨4, .data⟩ (by simp) rfl)) hLg HGC.out.2) ?_
                exact ⟨_, rfl, rfl, NRel.refl wy⟩
              · refine wpOp_enterG ho2 (wanted_none rfl) (n_call2 (canon fr dsN f).eval _ wy _ HEN1.out _ _ _ rfl rfl) ?_
                rw [(canon_eval fr dsN f 42 (by decide) (Nat.lt_of_le_of_lt (by decide) hsz)).trans (hd ⟨3, .data⟩ (by simp) rfl), (canon_eval fr dsN f 44 (by decide) (Nat.lt_of_le_of_lt (by decide) hsz)).trans (hd ⟨5, .data⟩ (by simp) rfl)]
                refine (belowN_any HU.out L.length hLp (by have := HL.out; omega) wy hS.draw).mono ?_
                rintro e wz ⟨y, hy1, rfl, hDz, hMz⟩
                exact ⟨_, rfl, _, rfl, ⟨y, hy1, rfl⟩, NRel.of_mut hDz hMz HRb.out⟩
              · obtain ⟨y, hy1, hyv⟩ := hd ⟨6, .data⟩ (by simp) rfl
                refine wpOp_runG ho2 (wanted_none rfl) (n_idx (canon fr dsN f).eval _ wy _ _ g L.length gc y rfl ((canon_eval fr dsN f 41 (by decide) (Nat.lt_of_le_of_lt (by decide) hsz)).trans (hd ⟨2, .data⟩ (by simp) rfl)) ((canon_eval fr dsN f 45 (by decide) (Nat.lt_of_le_of_lt (by decide) hsz)).trans hyv) hy1 hLg HGC.out.2) ?_
                exact ⟨_, rfl, ⟨y, hy1, rfl⟩, NRel.refl wy⟩
              · obtain ⟨y, hy1, hyv⟩ := hd ⟨7, .data⟩ (by simp) rfl
                have hOy := hS.own HO.out HBR.out.1
                refine wpOp_runG ho2 (wanted_none rfl) (n_loadN (canon fr dsN f).eval _ wy _ g _ (gN L y) rfl ((canon_eval fr dsN f 46 (by decide) (Nat.lt_of_le_of_lt (by decide) hsz)).trans hyv) (ownD_at hOy hy1).1) ?_
                exact ⟨_, rfl, ⟨y, hy1, rfl⟩, NRel.refl wy⟩
              · obtain ⟨y, hy1, hyv⟩ := hd ⟨8, .data⟩ (by simp) rfl
                have hOy := hS.own HO.out HBR.out.1
                have hf := (show Fine (gN L) L.length from HF.out) y hy1
                refine wpOp_enterG ho2 (wanted_none rfl) (n_call1 (canon fr dsN f).eval _ wy _ HEN2.out _ _ rfl rfl) ?_
                rw [(canon_eval fr dsN f 47 (by decide) (Nat.lt_of_le_of_lt (by decide) hsz)).trans hyv]
                refine (specIdOf_any _ _ _ _ _ _ _ _ (gN L y).S wy (ownD_at hOy hy1).2 hf.2.2 hf.1 hf.2.1).mono ?_
                rintro e wz ⟨rfl, hBz⟩
                exact ⟨_, rfl, _, rfl, ⟨y, hy1, rfl⟩, NRel.of_below hBz⟩
              · obtain ⟨y, hy1, hyv⟩ := hd ⟨9, .data⟩ (by simp) rfl
                obtain ⟨T, hT0, hT1, hT2⟩ := (show UpsV L b5 (f 40) wy from hd ⟨1, .data⟩ (by simp) rfl)
                have hTl : T.length ≤ L.length := up_len hT1 hT2
                refine wpOp_enterG ho2 (wanted_none rfl) (n_call2 (canon fr dsN f).eval _ wy _ HEN3.out _ _ _ rfl rfl) ?_
                rw [canon_eval fr dsN f 40 (by decide) (Nat.lt_of_le_of_lt (by decide) hsz), (canon_eval fr dsN f 48 (by decide) (Nat.lt_of_le_of_lt (by decide) hsz)).trans hyv]
                refine (l1PutL_any (b5 + 1) (f 40) T _ wy hT0 (by have := HL.out; omega)).mono ?_
                rintro e wz ⟨v', rfl, hOz, hBz⟩
                exact ⟨_, rfl, _, rfl, UpsV.put hy1 hT2 hT1 hS.apart.2.2.2 hOz, NRel.of_below hBz⟩
              · refine wpOp_runG ho2 (wanted_none rfl) (n_field5 (canon fr dsN f).eval _ wy _ b5 rfl ((canon_eval_ne fr dsN f 5 (by decide)).trans t5)) ?_
                exact ⟨_, rfl, rfl, NRel.refl wy⟩
              · have hv := (show UpsV L b5 (f 49) wy from hd ⟨10, .data⟩ (by simp) rfl)
                obtain ⟨u, m, c, hu⟩ := hv.slice
                rw [hu] at hv
                obtain ⟨A, S, key, u0, q0, q1, q2, q3, q4⟩ := hS.row5
                refine wpOp_runS ho2 (wanted_none rfl) (n_storeU (canon fr dsN f).eval _ wy _ _ b5 u0 u m c rfl ((canon_eval fr dsN f 50 (by decide) (Nat.lt_of_le_of_lt (by decide) hsz)).trans (hd ⟨11, .data⟩ (by simp) rfl)) ((canon_eval fr dsN f 49 (by decide) (Nat.lt_of_le_of_lt (by decide) hsz)).trans hu) (cellN q3) (frozN q3)) ?_
                exact ⟨_, (canon_put_same fr dsN f 38 (by decide)).symm, trivial, NRel.of_set hv⟩
            · intro f wy hy hall
              have HSY : Hid (NS W w a len cap R b5 L (1 + x3) tx4 wy) := hy.1 HSS.out
              rw [HFR.out]
              have e5 := HB5.out
              subst e5
              simp only [canon, dsN, List.foldl, Act.put, List.setIfInBounds_toArray, List.set_cons_succ, List.set_cons_zero]
              clear hy hall t0 t1 t5 HFR hsz
              go_wp2
              exact ⟨⟨k - 1, by omega, by go_num, HSY⟩, by simp [intOf]; omega⟩
          · have hn0I : ¬ (0 : Int) < (n : Int) := by omega
            go_wp2_with fail
            refine (once_any HU.out 40 (by omega) (by omega) _ HSS.out.draw).mono ?_
            rintro e w9 ⟨c9, rfl, hD9, hM9⟩
            have HS9 : Hid (NS W w a len cap R w4.heap.size L (1 + x3) tx4 w9) := HSS.out.step hD9 hM9
            clear hD9 hM9 HSS
            cases c9 with
            | true =>
              go_wp2_with fail
              refine (off1m_any HU.out _ HS9.out.draw).mono ?_
              rintro e w10 ⟨x10, _, _, rfl, hD10, hM10⟩
              have hs10 := HS9.out.step hD10 hM10
              clear hD10 hM10
              obtain ⟨A, S, key, u, q0, q1, q2, q3, q4⟩ := hs10.row5
              have s1 : w10.cell? ⟨w4.heap.size, 1, none⟩ = some (.int .i64 S) := cellN q3
              have s2 : w10.frozen? ⟨w4.heap.size, 1, none⟩ = false := frozN q3
              have HS11 : Hid (NS W w a len cap R w4.heap.size L (1 + x3) tx4 (w10.setCell ⟨w4.heap.size, 1, none⟩ (.int .i64 x10))) := hs10.setAt 1 _ (fun A S key u h0 h1 h2 => ⟨A, x10, key, h0, h1, h2, rfl⟩)
              clear hs10 q0 q1 q2 q3 q4
              obtain ⟨A2, S2, key2, u2, r0, r1, r2, r3, r4⟩ := HS11.out.row5
              obtain ⟨xx, hxu, hxa, hxs, hxk, hxkey, hxt, hxo, hxd⟩ := r4.node (base := w.heap.size) (Nat.le_of_lt HS11.out.apart.2.2.1) (Nat.le_trans HL.out (by decide)) A2 S2 (1 + x3) key2 tx4 ⟨r1, r2⟩ r0 HTX.out
              subst hxu
              have HRV : Hid (Value.agg #[Value.int .i64 A2, .int .i64 S2, .int .i64 (1 + x3), .string key2, .string tx4, .slice xx.u xx.n xx.cap] = .agg #[.int .i64 xx.a, .int .i64 xx.s, .int .i64 xx.k, .string xx.key, .string xx.text, .slice xx.u xx.n xx.cap]) := by show _ = _; rw [hxa, hxs, hxk, hxkey, hxt]
              have HXO : Hid (UpO _ w.heap.size xx) := hxo
              have HXD : Hid (DN L xx) := hxd
              obtain ⟨q, hq⟩ : ∃ q, q = #[Value.int .i64 A2, .int .i64 S2, .int .i64 (1 + x3), .string key2, .string tx4, .slice xx.u xx.n xx.cap] := ⟨_, rfl⟩
              have hi6 : (Tryz.prog.info? 50).map (·.size) = some q.size := by rw [hq]; kernel_rfl
              have ho6 : (#[Value.int .i64 0, .int .i64 0, .int .i64 0, .string ⟨#[]⟩, .string ⟨#[]⟩, .slice none 0 0] : Array Value).size = q.size := by rw [hq]; rfl
              have h16 : q.all (·.oneCell') = true := by rw [hq]; simp [Value.oneCell']
              have HQ : Hid (q = #[Value.int .i64 A2, .int .i64 S2, .int .i64 (1 + x3), .string key2, .string tx4, .slice xx.u xx.n xx.cap]) := hq
              have HR5 := (show Hid _ from r3)
              rw [← hq] at r3
              clear hxa hxs hxk hxkey hxt hxo hxd hq r0 r1 r2
              obtain ⟨z0, z1, z2, z3, z4, z5⟩ := row_cells HR5.out
              clear r3
              have HG4 := (show Hid _ from HS11.out.row4)
              have HDN := (show Hid _ from HS11.out.done q HXO.out)
              go_wp2_with (refine wpList_store_row rfl 50 _ _ rfl w.heap.size q rfl (congrArg Value.agg HQ.out.symm) 50 _ HG4.out hi6 ho6 h16 ?_)
              refine bodyPost_ret (v := .agg q) (results_cell_row rfl _ _ w.heap.size 50 _ _ _ rfl (setRow_heap _ _ _ _ _ _ HG4.out) Tryz.underlying50 rfl hi6) rfl ⟨xx, ret_val ((congrArg Value.agg HQ.out).trans HRV.out), HDN.out.1, HXD.out, HDN.out.2.1, HDN.out.2.2⟩
            | false =>
              have HS11 : Hid (NS W w a len cap R w4.heap.size L (1 + x3) tx4 w9) := HS9.out
              obtain ⟨A2, S2, key2, u2, r0, r1, r2, r3, r4⟩ := HS11.out.row5
              obtain ⟨xx, hxu, hxa, hxs, hxk, hxkey, hxt, hxo, hxd⟩ := r4.node (base := w.heap.size) (Nat.le_of_lt HS11.out.apart.2.2.1) (Nat.le_trans HL.out (by decide)) A2 S2 (1 + x3) key2 tx4 ⟨r1, r2⟩ r0 HTX.out
              subst hxu
              have HRV : Hid (Value.agg #[Value.int .i64 A2, .int .i64 S2, .int .i64 (1 + x3), .string key2, .string tx4, .slice xx.u xx.n xx.cap] = .agg #[.int .i64 xx.a, .int .i64 xx.s, .int .i64 xx.k, .string xx.key, .string xx.text, .slice xx.u xx.n xx.cap]) := by show _ = _; rw [hxa, hxs, hxk, hxkey, hxt]
              have HXO : Hid (UpO _ w.heap.size xx) := hxo
              have HXD : Hid (DN L xx) := hxd
              obtain ⟨q, hq⟩ : ∃ q, q = #[Value.int .i64 A2, .int .i64 S2, .int .i64 (1 + x3), .string key2, .string tx4, .slice xx.u xx.n xx.cap] := ⟨_, rfl⟩
              have hi6 : (Tryz.prog.info? 50).map (·.size) = some q.size := by rw [hq]; kernel_rfl
              have ho6 : (#[Value.int .i64 0, .int .i64 0, .int .i64 0, .string ⟨#[]⟩, .string ⟨#[]⟩, .slice none 0 0] : Array Value).size = q.size := by rw [hq]; rfl
              have h16 : q.all (·.oneCell') = true := by rw [hq]; simp [Value.oneCell']
              have HQ : Hid (q = #[Value.int .i64 A2, .int .i64 S2, .int .i64 (1 + x3), .string key2, .string tx4, .slice xx.u xx.n xx.cap]) := hq
              have HR5 := (show Hid _ from r3)
              rw [← hq] at r3
              clear hxa hxs hxk hxkey hxt hxo hxd hq r0 r1 r2
              obtain ⟨z0, z1, z2, z3, z4, z5⟩ := row_cells HR5.out
              clear r3
              have HG4 := (show Hid _ from HS11.out.row4)
              have HDN := (show Hid _ from HS11.out.done q HXO.out)
              go_wp2_with (refine wpList_store_row rfl 50 _ _ rfl w.heap.size q rfl (congrArg Value.agg HQ.out.symm) 50 _ HG4.out hi6 ho6 h16 ?_)
              refine bodyPost_ret (v := .agg q) (results_cell_row rfl _ _ w.heap.size 50 _ _ _ rfl (setRow_heap _ _ _ _ _ _ HG4.out) Tryz.underlying50 rfl hi6) rfl ⟨xx, ret_val ((congrArg Value.agg HQ.out).trans HRV.out), HDN.out.1, HXD.out, HDN.out.2.1, HDN.out.2.2⟩
        · have hk0I : ¬ (0 : Int) < (k : Int) := by omega
          go_wp2_with fail
          refine (once_any HU.out 40 (by omega) (by omega) _ HSS.out.draw).mono ?_
          rintro e w9 ⟨c9, rfl, hD9, hM9⟩
          have HS9 : Hid (NS W w a len cap R w4.heap.size L (1 + x3) tx4 w9) := HSS.out.step hD9 hM9
          clear hD9 hM9 HSS
          cases c9 with
          | true =>
            go_wp2_with fail
            refine (off1m_any HU.out _ HS9.out.draw).mono ?_
            rintro e w10 ⟨x10, _, _, rfl, hD10, hM10⟩
            have hs10 := HS9.out.step hD10 hM10
            clear hD10 hM10
            obtain ⟨A, S, key, u, q0, q1, q2, q3, q4⟩ := hs10.row5
            have s1 : w10.cell? ⟨w4.heap.size, 1, none⟩ = some (.int .i64 S) := cellN q3
            have s2 : w10.frozen? ⟨w4.heap.size, 1, none⟩ = false := frozN q3
            have HS11 : Hid (NS W w a len cap R w4.heap.size L (1 + x3) tx4 (w10.setCell ⟨w4.heap.size, 1, none⟩ (.int .i64 x10))) := hs10.setAt 1 _ (fun A S key u h0 h1 h2 => ⟨A, x10, key, h0, h1, h2, rfl⟩)
            clear hs10 q0 q1 q2 q3 q4
            obtain ⟨A2, S2, key2, u2, r0, r1, r2, r3, r4⟩ := HS11.out.row5
            obtain ⟨xx, hxu, hxa, hxs, hxk, hxkey, hxt, hxo, hxd⟩ := r4.node (base := w.heap.size) (Nat.le_of_lt HS11.out.apart.2.2.1) (Nat.le_trans HL.out (by decide)) A2 S2 (1 + x3) key2 tx4 ⟨r1, r2⟩ r0 HTX.out
            subst hxu
            have HRV : Hid (Value.agg #[Value.int .i64 A2, .int .i64 S2, .int .i64 (1 + x3), .string key2, .string tx4, .slice xx.u xx.n xx.cap] = .agg #[.int .i64 xx.a, .int .i64 xx.s, .int .i64 xx.k, .string xx.key, .string xx.text, .slice xx.u xx.n xx.cap]) := by show _ = _; rw [hxa, hxs, hxk, hxkey, hxt]
            have HXO : Hid (UpO _ w.heap.size xx) := hxo
            have HXD : Hid (DN L xx) := hxd
            obtain ⟨q, hq⟩ : ∃ q, q = #[Value.int .i64 A2, .int .i64 S2, .int .i64 (1 + x3), .string key2, .string tx4, .slice xx.u xx.n xx.cap] := ⟨_, rfl⟩
            have hi6 : (Tryz.prog.info? 50).map (·.size) = some q.size := by rw [hq]; kernel_rfl
            have ho6 : (#[Value.int .i64 0, .int .i64 0, .int .i64 0, .string ⟨#[]⟩, .string ⟨#[]⟩, .slice none 0 0] : Array Value).size = q.size := by rw [hq]; rfl
            have h16 : q.all (·.oneCell') = true := by rw [hq]; simp [Value.oneCell']
            have HQ : Hid (q = #[Value.int .i64 A2, .int .i64 S2, .int .i64 (1 + x3), .string key2, .string tx4, .slice xx.u xx.n xx.cap]) := hq
            have HR5 := (show Hid _ from r3)
            rw [← hq] at r3
            clear hxa hxs hxk hxkey hxt hxo hxd hq r0 r1 r2
            obtain ⟨z0, z1, z2, z3, z4, z5⟩ := row_cells HR5.out
            clear r3
            have HG4 := (show Hid _ from HS11.out.row4)
            have HDN := (show Hid _ from HS11.out.done q HXO.out)
            go_wp2_with (refine wpList_store_row rfl 50 _ _ rfl w.heap.size q rfl (congrArg Value.agg HQ.out.symm) 50 _ HG4.out hi6 ho6 h16 ?_)
            refine bodyPost_ret (v := .agg q) (results_cell_row rfl _ _ w.heap.size 50 _ _ _ rfl (setRow_heap _ _ _ _ _ _ HG4.out) Tryz.underlying50 rfl hi6) rfl ⟨xx, ret_val ((congrArg Value.agg HQ.out).trans HRV.out), HDN.out.1, HXD.out, HDN.out.2.1, HDN.out.2.2⟩
          | false =>
            have HS11 : Hid (NS W w a len cap R w4.heap.size L (1 + x3) tx4 w9) := HS9.out
            obtain ⟨A2, S2, key2, u2, r0, r1, r2, r3, r4⟩ := HS11.out.row5
            obtain ⟨xx, hxu, hxa, hxs, hxk, hxkey, hxt, hxo, hxd⟩ := r4.node (base := w.heap.size) (Nat.le_of_lt HS11.out.apart.2.2.1) (Nat.le_trans HL.out (by decide)) A2 S2 (1 + x3) key2 tx4 ⟨r1, r2⟩ r0 HTX.out
            subst hxu
            have HRV : Hid (Value.agg #[Value.int .i64 A2, .int .i64 S2, .int .i64 (1 + x3), .string key2, .string tx4, .slice xx.u xx.n xx.cap] = .agg #[.int .i64 xx.a, .int .i64 xx.s, .int .i64 xx.k, .string xx.key, .string xx.text, .slice xx.u xx.n xx.cap]) := by show _ = _; rw [hxa, hxs, hxk, hxkey, hxt]
            have HXO : Hid (UpO _ w.heap.size xx) := hxo
            have HXD : Hid (DN L xx) := hxd
            obtain ⟨q, hq⟩ : ∃ q, q = #[Value.int .i64 A2, .int .i64 S2, .int .i64 (1 + x3), .string key2, .string tx4, .slice xx.u xx.n xx.cap] := ⟨_, rfl⟩
            have hi6 : (Tryz.prog.info? 50).map (·.size) = some q.size := by rw [hq]; kernel_rfl
            have ho6 : (#[Value.int .i64 0, .int .i64 0, .int .i64 0, .string ⟨#[]⟩, .string ⟨#[]⟩, .slice none 0 0] : Array Value).size = q.size := by rw [hq]; rfl
            have h16 : q.all (·.oneCell') = true := by rw [hq]; simp [Value.oneCell']
            have HQ : Hid (q = #[Value.int .i64 A2, .int .i64 S2, .int .i64 (1 + x3), .string key2, .string tx4, .slice xx.u xx.n xx.cap]) := hq
            have HR5 := (show Hid _ from r3)
            rw [← hq] at r3
            clear hxa hxs hxk hxkey hxt hxo hxd hq r0 r1 r2
            obtain ⟨z0, z1, z2, z3, z4, z5⟩ := row_cells HR5.out
            clear r3
            have HG4 := (show Hid _ from HS11.out.row4)
            have HDN := (show Hid _ from HS11.out.done q HXO.out)
            go_wp2_with (refine wpList_store_row rfl 50 _ _ rfl w.heap.size q rfl (congrArg Value.agg HQ.out.symm) 50 _ HG4.out hi6 ho6 h16 ?_)
            refine bodyPost_ret (v := .agg q) (results_cell_row rfl _ _ w.heap.size 50 _ _ _ rfl (setRow_heap _ _ _ _ _ _ HG4.out) Tryz.underlying50 rfl hi6) rfl ⟨xx, ret_val ((congrArg Value.agg HQ.out).trans HRV.out), HDN.out.1, HXD.out, HDN.out.2.1, HDN.out.2.2⟩
end
end Go.Proofs.YtlibipbpaigmdaaGreatDoor

namespace Go.Proofs.YtlibipbpaigmdaaGreatDoor
open Go.RowKit
set_option linter.unusedVariables false

def dsB : List Nat := [7, 8, 9, 10, 11, 12, 13, 14, 15, 16, 17, 18, 19, 20, 21]
def slotB (j : Nat) : Nat := j + 7
theorem slotB_mem (i : Nat) (hi : i < 15) : slotB i ∈ dsB := by
  have h : ∀ i : Fin 15, slotB i.val ∈ dsB := by decide
  exact h ⟨i, hi⟩
def BF (b off len cap : Nat) (D : Nat → Nd) (x : Nd) : Nat → Value → World → Prop
  | 0, v, _ => v = .slice (some ⟨b, off, none⟩) len cap
  | 1, v, _ => v = .bool (dagB D len)
  | 2, v, _ => v = .bool (!(dagB D len))
  | 3, v, _ => v = .bool (!(dagB D len))
  | 4, v, _ => dagB D len = true → v = .agg #[.int .i64 x.a, .int .i64 x.s, .int .i64 x.k, .string x.key, .string x.text, .slice x.u x.n x.cap]
  | 5, v, _ => dagB D len = true → v = .bool x.ok
  | 6, v, _ => dagB D len = true → v = .bool (!x.ok)
  | 7, v, _ => v = .bool (!(dagB D len && x.ok))
  | 8, v, _ => v = .bool (!(dagB D len && x.ok))
  | 9, v, _ => (dagB D len && x.ok) = true → v = .slice (some ⟨b, off, none⟩) len cap
  | 10, v, w => (dagB D len && x.ok) = true → ∃ g gc, v = .slice g len gc ∧ IsStrs w g len gc (ids D)
  | 11, v, _ => (dagB D len && x.ok) = true → v = .agg #[.int .i64 x.a, .int .i64 x.s, .int .i64 x.k, .string x.key, .string x.text, .slice x.u x.n x.cap]
  | 12, v, _ => (dagB D len && x.ok) = true → v = .bool (hasB (ids D) len x.S x.n)
  | 13, v, _ => (dagB D len && x.ok) = true → v = .bool (!(hasB (ids D) len x.S x.n))
  | _, v, _ => v = .bool (!((dagB D len && x.ok) && hasB (ids D) len x.S x.n))
theorem BF.keep {b off len cap : Nat} {D : Nat → Nd} {x : Nd} (j : Nat) (v : Value) (w w' : World) (h : BF b off len cap D x j v w) (hB : Below w.heap.size w w') : BF b off len cap D x j v w' := by
  unfold BF at h ⊢
  split at h <;> first | exact h | (intro hc; obtain ⟨g, gc, e, hI⟩ := h hc; exact ⟨g, gc, e, hI.below hB⟩)
theorem n_not (ev : Operand → Value) (o : Oper) (w : World) (x : Operand) (c : Bool) (h : o.op = .unOp .not 4 x) (hx : ev x = .bool c) : (execOp ev o).run Tryz.prog w = .ok (.value (.bool (!c))) w := by
  simp [execOp, h, hx]
  go_simp
theorem n_pickT (ev : Operand → Value) (o : Oper) (w : World) (x y : Operand) (h : o.op = .pick x (.const (.bool true)) y) (hx : ev x = .bool (!false)) : (execOp ev o).run Tryz.prog w = .ok (.value (ev (.const (.bool true)))) w := by
  simp [execOp, h, hx, asBool]
theorem n_pickF (ev : Operand → Value) (o : Oper) (w : World) (x y : Operand) (h : o.op = .pick x (.const (.bool true)) y) (hx : ev x = .bool (!true)) : (execOp ev o).run Tryz.prog w = .ok (.value (ev y)) w := by
  simp [execOp, h, hx, asBool]

set_option maxRecDepth 10000 in
set_option maxHeartbeats 8000000 in
theorem specAdded_any (b off len cap : Nat) (D : Nat → Nd) (x : Nd) (w : World) (h : IsNds w (some ⟨b, off, none⟩) len cap D) (hf : Fine D len) (hu : OkUs D len) (hl : len ≤ 30) (hx : IsStrs w x.u x.n x.cap x.S) (hxo : OkU x) (hxf : FineN x) :
    Calls Tryz.prog 158 #[.slice (some ⟨b, off, none⟩) len cap, .agg #[.int .i64 x.a, .int .i64 x.s, .int .i64 x.k, .string x.key, .string x.text, .slice x.u x.n x.cap]] w fun e w' => ∃ v r, e = .returned (.tuple #[v, .bool r]) ∧ (r = true → dagB D len = true ∧ x.ok = true ∧ hasB (ids D) len x.S x.n = true ∧ ∃ A, OwnD w' w.heap.size v A ∧ PutP D len x A ∧ v ≠ .slice none 0 0 ∧ A.length ≤ 30) ∧ Below w.heap.size w w' := by
  have HN : Hid (∀ w', Below w.heap.size w w' → IsNds w' (some ⟨b, off, none⟩) len cap D) := fun w' hB => h.below hB
  have HF : Hid (Fine D len) := hf
  have HU : Hid (OkUs D len) := hu
  have HLE : Hid (len ≤ 30) := hl
  have HX : Hid (∀ w', Below w.heap.size w w' → IsStrs w' x.u x.n x.cap x.S) := fun w' hB => hx.below hB
  have HXO : Hid (OkU x) := hxo
  have HXF : Hid (FineN x) := hxf
  have HEN1 : Hid (∀ args w, (callFunc 46 args).run Tryz.prog w = .ok (.enter 46 args) w) := enters_of Tryz.func46 (by kernel_rfl) rfl
  have HEN2 : Hid (∀ args w, (callFunc 114 args).run Tryz.prog w = .ok (.enter 114 args) w) := enters_of Tryz.func114 (by kernel_rfl) rfl
  have HEN3 : Hid (∀ args w, (callFunc 84 args).run Tryz.prog w = .ok (.enter 84 args) w) := enters_of Tryz.func84 (by kernel_rfl) rfl
  have HEN4 : Hid (∀ args w, (callFunc 115 args).run Tryz.prog w = .ok (.enter 115 args) w) := enters_of Tryz.func115 (by kernel_rfl) rfl
  obtain ⟨w1, hw1⟩ : ∃ w1, w1 = w.alloc (.cells #[.int .i64 x.a, .int .i64 x.s, .int .i64 x.k, .string x.key, .string x.text, .slice x.u x.n x.cap] 50) := ⟨_, rfl⟩
  have hB1 : Below w.heap.size w w1 := by rw [hw1]; exact (Below.refl _ _).alloc (Nat.le_refl _) _
  have g1 : w1.heap[w.heap.size]? = some (.cells #[.int .i64 x.a, .int .i64 x.s, .int .i64 x.k, .string x.key, .string x.text, .slice x.u x.n x.cap] 50 (0, 0)) := by rw [hw1]; exact heap_alloc_new _ _
  have nd1 : NdAt w1 w.heap.size 0 x := ⟨cellN g1, cellN g1, cellN g1, cellN g1, cellN g1, cellN g1, hx.below hB1⟩
  have HND : Hid (∀ w', Below w1.heap.size w1 w' → NdAt w' w.heap.size 0 x) := fun w' hB => nd1.below hB
  have HB1 : Hid (Below w.heap.size w w1) := hB1
  have HW1 := (show Hid _ from hw1)
  clear h hf hu hl hx hxo hxf hw1 hB1 g1 nd1
  go_enter Tryz.func158, Tryz.ntmps158
  go_wp2_with fail
  rw [← HW1.out]
  refine wp_letter ?_
  intro fr hfr
  have hsz : 21 < fr.tmps.size := by rw [hfr]; exact Nat.le_of_ble_eq_true rfl
  have t0 : fr.eval (.tmp 0) = .slice (some ⟨b, off, none⟩) len cap := by rw [hfr]; rfl
  have t3 : fr.eval (.tmp 3) = .pointer (some ⟨w.heap.size, 0, none⟩) := by rw [hfr]; rfl
  have HFR := (show Hid _ from hfr)
  clear hfr
  refine wp_region_rel (Rel := fun v v' => Below v.heap.size v v') (fun w => Below.refl _ _) (fun h k => h.trans (k.mono h.size)) (fun v => ⟨rfl, rfl, rfl, Nat.le_refl _, fun _ _ => rfl⟩) (by kernel_rfl) (by kernel_rfl) dsB slotB (BF b off len cap D x) (fun j v u u' h r => BF.keep j v u u' h r) ?_ ?_ ?_ ?_
  · intro i hi
    exact slotB_mem i hi
  · intro i j hi hj q
    unfold slotB at q
    omega
  · intro ops hops f wy i o hy ho hd
    have ho2 := ho
    have g3 : ∀ (o : Oper) (c : Bool), f 10 = .bool c → o.guard = some (3, false) → Region.wanted o (yielded ops (canon fr dsB f).tmps) = (c == false) := wanted_is ho2 3 10 false (by rw [hops]; rfl) (by decide) (Nat.lt_of_le_of_lt (by decide) hsz)
    have g8 : ∀ (o : Oper) (c : Bool), f 15 = .bool c → o.guard = some (8, false) → Region.wanted o (yielded ops (canon fr dsB f).tmps) = (c == false) := wanted_is ho2 8 15 false (by rw [hops]; rfl) (by decide) (Nat.lt_of_le_of_lt (by decide) hsz)
    rw [hops] at ho
    have hi : i < 15 := by
      rcases Nat.lt_or_ge i 15 with h | h
      · exact h
      · rw [Array.getElem?_eq_none (by simpa using h)] at ho; cases ho
    have hS : Below w.heap.size w wy := HB1.out.trans (hy.mono HB1.out.size)
    have hi' : i = 0 ∨ i = 1 ∨ i = 2 ∨ i = 3 ∨ i = 4 ∨ i = 5 ∨ i = 6 ∨ i = 7 ∨ i = 8 ∨ i = 9 ∨ i = 10 ∨ i = 11 ∨ i = 12 ∨ i = 13 ∨ i = 14 := by omega
    clear hops
    rcases hi' with rfl | rfl | rfl | rfl | rfl | rfl | rfl | rfl | rfl | rfl | rfl | rfl | rfl | rfl | rfl <;> simp only [List.getElem?_toArray, List.getElem?_cons_succ, List.getElem?_cons_zero, Option.some.injEq] at ho <;> subst ho
    · refine wpOp_runG ho2 (wanted_none rfl) (n_move (canon fr dsB f).eval _ wy _ rfl) ?_
      exact ⟨_, rfl, (canon_eval_ne fr dsB f 0 (by decide)).trans t0, Below.refl _ _⟩
    · refine wpOp_enterG ho2 (wanted_none rfl) (n_call1 (canon fr dsB f).eval _ wy _ HEN1.out _ _ rfl rfl) ?_
      rw [(canon_eval fr dsB f 7 (by decide) (Nat.lt_of_le_of_lt (by decide) hsz)).trans (hd ⟨0, .data⟩ (by simp) rfl)]
      refine (specDagOk_any _ len cap D wy (HN.out wy hS) HF.out).mono ?_
      rintro e wz ⟨rfl, hBz⟩
      exact ⟨_, rfl, _, rfl, rfl, hBz⟩
    · refine wpOp_runG ho2 (wanted_none rfl) (n_not (canon fr dsB f).eval _ wy _ _ rfl ((canon_eval fr dsB f 8 (by decide) (Nat.lt_of_le_of_lt (by decide) hsz)).trans (hd ⟨1, .data⟩ (by simp) rfl))) ?_
      exact ⟨_, rfl, rfl, Below.refl _ _⟩
    · refine wpOp_runG ho2 (wanted_none rfl) (n_move (canon fr dsB f).eval _ wy _ rfl) ?_
      exact ⟨_, rfl, (canon_eval fr dsB f 9 (by decide) (Nat.lt_of_le_of_lt (by decide) hsz)).trans (hd ⟨2, .data⟩ (by simp) rfl), Below.refl _ _⟩
    · have hg : f 10 = .bool (!dagB D len) := (hd ⟨3, .guard⟩ (by simp) rfl)
      cases hc : dagB D len with
      | false =>
        rw [hc] at hg
        refine wpOp_skipG ho2 (g3 _ _ hg rfl) ?_
        exact ⟨_, rfl, fun h => absurd (hc.symm.trans h) (by decide), Below.refl _ _⟩
      | true =>
        rw [hc] at hg
        refine wpOp_runG ho2 (g3 _ _ hg rfl) (n_loadN (canon fr dsB f).eval _ wy _ w.heap.size 0 x rfl ((canon_eval_ne fr dsB f 3 (by decide)).trans t3) (HND.out wy hy)) ?_
        exact ⟨_, rfl, fun _ => rfl, Below.refl _ _⟩
    · have hg : f 10 = .bool (!dagB D len) := (hd ⟨3, .guard⟩ (by simp) rfl)
      cases hc : dagB D len with
      | false =>
        rw [hc] at hg
        refine wpOp_skipG ho2 (g3 _ _ hg rfl) ?_
        exact ⟨_, rfl, fun h => absurd (hc.symm.trans h) (by decide), Below.refl _ _⟩
      | true =>
        rw [hc] at hg
        refine wpOp_enterG ho2 (g3 _ _ hg rfl) (n_call1 (canon fr dsB f).eval _ wy _ HEN2.out _ _ rfl rfl) ?_
        rw [(canon_eval fr dsB f 11 (by decide) (Nat.lt_of_le_of_lt (by decide) hsz)).trans ((hd ⟨4, .data⟩ (by simp) rfl) hc)]
        refine (specNodeOk_any _ _ _ _ _ _ _ _ x.S wy (HX.out wy hS) HXF.out.2.2 HXF.out.1 HXF.out.2.1).mono ?_
        rintro e wz ⟨rfl, hBz⟩
        exact ⟨_, rfl, _, rfl, fun _ => rfl, hBz⟩
    · have hg : f 10 = .bool (!dagB D len) := (hd ⟨3, .guard⟩ (by simp) rfl)
      cases hc : dagB D len with
      | false =>
        rw [hc] at hg
        refine wpOp_skipG ho2 (g3 _ _ hg rfl) ?_
        exact ⟨_, rfl, fun h => absurd (hc.symm.trans h) (by decide), Below.refl _ _⟩
      | true =>
        rw [hc] at hg
        refine wpOp_runG ho2 (g3 _ _ hg rfl) (n_not (canon fr dsB f).eval _ wy _ _ rfl ((canon_eval fr dsB f 12 (by decide) (Nat.lt_of_le_of_lt (by decide) hsz)).trans ((hd ⟨5, .data⟩ (by simp) rfl) hc))) ?_
        exact ⟨_, rfl, fun _ => rfl, Below.refl _ _⟩
    · have hg : f 10 = .bool (!dagB D len) := (hd ⟨3, .data⟩ (by simp) rfl)
      have hv : dagB D len = true → f 13 = .bool (!x.ok) := (hd ⟨6, .data⟩ (by simp) rfl)
      cases hc : dagB D len with
      | false =>
        rw [hc] at hg
        refine wpOp_runG ho2 (wanted_none rfl) (n_pickT (canon fr dsB f).eval _ wy _ _ rfl ((canon_eval fr dsB f 10 (by decide) (Nat.lt_of_le_of_lt (by decide) hsz)).trans hg)) ?_
        exact ⟨_, rfl, by show _ = _; simp [hc]; rfl, Below.refl _ _⟩
      | true =>
        rw [hc] at hg
        refine wpOp_runG ho2 (wanted_none rfl) (n_pickF (canon fr dsB f).eval _ wy _ _ rfl ((canon_eval fr dsB f 10 (by decide) (Nat.lt_of_le_of_lt (by decide) hsz)).trans hg)) ?_
        exact ⟨_, rfl, by show _ = _; rw [(canon_eval fr dsB f 13 (by decide) (Nat.lt_of_le_of_lt (by decide) hsz)), hv hc]; simp [hc], Below.refl _ _⟩
    · refine wpOp_runG ho2 (wanted_none rfl) (n_move (canon fr dsB f).eval _ wy _ rfl) ?_
      exact ⟨_, rfl, (canon_eval fr dsB f 14 (by decide) (Nat.lt_of_le_of_lt (by decide) hsz)).trans (hd ⟨7, .data⟩ (by simp) rfl), Below.refl _ _⟩
    · have hg : f 15 = .bool (!(dagB D len && x.ok)) := (hd ⟨8, .guard⟩ (by simp) rfl)
      cases hc : (dagB D len && x.ok) with
      | false =>
        rw [hc] at hg
        refine wpOp_skipG ho2 (g8 _ _ hg rfl) ?_
        exact ⟨_, rfl, fun h => absurd (hc.symm.trans h) (by decide), Below.refl _ _⟩
      | true =>
        rw [hc] at hg
        refine wpOp_runG ho2 (g8 _ _ hg rfl) (n_move (canon fr dsB f).eval _ wy _ rfl) ?_
        exact ⟨_, rfl, fun _ => (canon_eval_ne fr dsB f 0 (by decide)).trans t0, Below.refl _ _⟩
    · have hg : f 15 = .bool (!(dagB D len && x.ok)) := (hd ⟨8, .guard⟩ (by simp) rfl)
      cases hc : (dagB D len && x.ok) with
      | false =>
        rw [hc] at hg
        refine wpOp_skipG ho2 (g8 _ _ hg rfl) ?_
        exact ⟨_, rfl, fun h => absurd (hc.symm.trans h) (by decide), Below.refl _ _⟩
      | true =>
        rw [hc] at hg
        refine wpOp_enterG ho2 (g8 _ _ hg rfl) (n_call1 (canon fr dsB f).eval _ wy _ HEN3.out _ _ rfl rfl) ?_
        rw [(canon_eval fr dsB f 16 (by decide) (Nat.lt_of_le_of_lt (by decide) hsz)).trans ((hd ⟨9, .data⟩ (by simp) rfl) hc)]
        refine (l6All_any _ len cap D wy (HN.out wy hS) HF.out HLE.out).mono ?_
        rintro e wz ⟨q, qc, rfl, hI, hBz⟩
        exact ⟨_, rfl, _, rfl, fun _ => ⟨q, qc, rfl, hI⟩, hBz⟩
    · have hg : f 15 = .bool (!(dagB D len && x.ok)) := (hd ⟨8, .guard⟩ (by simp) rfl)
      cases hc : (dagB D len && x.ok) with
      | false =>
        rw [hc] at hg
        refine wpOp_skipG ho2 (g8 _ _ hg rfl) ?_
        exact ⟨_, rfl, fun h => absurd (hc.symm.trans h) (by decide), Below.refl _ _⟩
      | true =>
        rw [hc] at hg
        refine wpOp_runG ho2 (g8 _ _ hg rfl) (n_loadN (canon fr dsB f).eval _ wy _ w.heap.size 0 x rfl ((canon_eval_ne fr dsB f 3 (by decide)).trans t3) (HND.out wy hy)) ?_
        exact ⟨_, rfl, fun _ => rfl, Below.refl _ _⟩
    · have hg : f 15 = .bool (!(dagB D len && x.ok)) := (hd ⟨8, .guard⟩ (by simp) rfl)
      cases hc : (dagB D len && x.ok) with
      | false =>
        rw [hc] at hg
        refine wpOp_skipG ho2 (g8 _ _ hg rfl) ?_
        exact ⟨_, rfl, fun h => absurd (hc.symm.trans h) (by decide), Below.refl _ _⟩
      | true =>
        rw [hc] at hg
        obtain ⟨q, qc, hq, hI⟩ := (hd ⟨10, .data⟩ (by simp) rfl) hc
        refine wpOp_enterG ho2 (g8 _ _ hg rfl) (n_call2 (canon fr dsB f).eval _ wy _ HEN4.out _ _ _ rfl rfl) ?_
        rw [(canon_eval fr dsB f 17 (by decide) (Nat.lt_of_le_of_lt (by decide) hsz)).trans hq, (canon_eval fr dsB f 18 (by decide) (Nat.lt_of_le_of_lt (by decide) hsz)).trans ((hd ⟨11, .data⟩ (by simp) rfl) hc)]
        refine (l6Has_any _ _ _ (ids D) _ _ _ _ _ _ _ _ x.S wy hI (HX.out wy hS)).mono ?_
        rintro e wz ⟨rfl, hBz⟩
        exact ⟨_, rfl, _, rfl, fun _ => rfl, hBz⟩
    · have hg : f 15 = .bool (!(dagB D len && x.ok)) := (hd ⟨8, .guard⟩ (by simp) rfl)
      cases hc : (dagB D len && x.ok) with
      | false =>
        rw [hc] at hg
        refine wpOp_skipG ho2 (g8 _ _ hg rfl) ?_
        exact ⟨_, rfl, fun h => absurd (hc.symm.trans h) (by decide), Below.refl _ _⟩
      | true =>
        rw [hc] at hg
        refine wpOp_runG ho2 (g8 _ _ hg rfl) (n_not (canon fr dsB f).eval _ wy _ _ rfl ((canon_eval fr dsB f 19 (by decide) (Nat.lt_of_le_of_lt (by decide) hsz)).trans ((hd ⟨12, .data⟩ (by simp) rfl) hc))) ?_
        exact ⟨_, rfl, fun _ => rfl, Below.refl _ _⟩
    · have hg : f 15 = .bool (!(dagB D len && x.ok)) := (hd ⟨8, .data⟩ (by simp) rfl)
      have hv : (dagB D len && x.ok) = true → f 20 = .bool (!hasB (ids D) len x.S x.n) := (hd ⟨13, .data⟩ (by simp) rfl)
      cases hc : (dagB D len && x.ok) with
      | false =>
        rw [hc] at hg
        refine wpOp_runG ho2 (wanted_none rfl) (n_pickT (canon fr dsB f).eval _ wy _ _ rfl ((canon_eval fr dsB f 15 (by decide) (Nat.lt_of_le_of_lt (by decide) hsz)).trans hg)) ?_
        exact ⟨_, rfl, by show _ = _; simp [hc]; rfl, Below.refl _ _⟩
      | true =>
        rw [hc] at hg
        refine wpOp_runG ho2 (wanted_none rfl) (n_pickF (canon fr dsB f).eval _ wy _ _ rfl ((canon_eval fr dsB f 15 (by decide) (Nat.lt_of_le_of_lt (by decide) hsz)).trans hg)) ?_
        exact ⟨_, rfl, by show _ = _; rw [(canon_eval fr dsB f 20 (by decide) (Nat.lt_of_le_of_lt (by decide) hsz)), hv hc]; simp [hc], Below.refl _ _⟩
  · intro f wy hy hall
    have hr : f 21 = .bool (!((dagB D len && x.ok) && hasB (ids D) len x.S x.n)) := hall 14 (by decide)
    have HS : Hid (Below w.heap.size w wy) := HB1.out.trans (hy.mono HB1.out.size)
    have ndy := HND.out wy hy
    obtain ⟨c0, c1, c2, c3, c4, c5, _⟩ := ndy
    simp only [Nat.zero_add] at c0 c1 c2 c3 c4 c5
    rw [HFR.out]
    simp only [canon, dsB, List.foldl, Act.put, List.setIfInBounds_toArray, List.set_cons_succ, List.set_cons_zero]
    rw [hr]
    clear hy hall t0 t3 HFR hsz hr
    cases hc : ((dagB D len && x.ok) && hasB (ids D) len x.S x.n) with
    | false =>
      simp only [Bool.not_false]
      go_wp2_with fail
      go_ret2
      exact ⟨_, _, rfl, fun h => (Bool.false_ne_true h).elim, HS.out⟩
    | true =>
      simp only [Bool.not_true]
      obtain ⟨hqk, hh⟩ := (Bool.and_eq_true_iff.1 hc)
      obtain ⟨hq, hxk⟩ := (Bool.and_eq_true_iff.1 hqk)
      have HP : Hid (Calls Tryz.prog 190 #[.slice (some ⟨b, off, none⟩) len cap, .agg #[.int .i64 x.a, .int .i64 x.s, .int .i64 x.k, .string x.key, .string x.text, .slice x.u x.n x.cap]] wy fun e w' => ∃ v A, e = .returned v ∧ OwnD w' wy.heap.size v A ∧ PutP D len x A ∧ v ≠ .slice none 0 0 ∧ Below wy.heap.size wy w') := l6Put_any b off len cap D x wy (HN.out wy HS.out) HF.out HU.out HLE.out (HX.out wy HS.out) HXO.out HXF.out
      go_wp2_with fail
      refine HP.out.mono ?_
      rintro e w5 ⟨v, A, rfl, hO, hP, hv, hB5⟩
      have HB5 : Hid (Below w.heap.size w w5) := HS.out.trans (hB5.mono HS.out.size)
      have HO5 : Hid (OwnD w5 w.heap.size v A) := hO.base HS.out.size
      have HPP : Hid (PutP D len x A ∧ v ≠ .slice none 0 0) := ⟨hP, hv⟩
      obtain ⟨u5, k5, hve, hND, _⟩ := hO.nds
      have hc1 : A.length ≤ k5 := hND.1
      have hc2 : k5 ≤ 9223372036854775807 := hND.2.1
      subst hve
      clear hB5 hO hP hv HP hND
      by_cases h30 : 30 < A.length
      · have h30I : (30 : Int) < (A.length : Int) := by omega
        go_wp2_with fail
        go_ret2
        exact ⟨_, _, rfl, fun h => (Bool.false_ne_true h).elim, HB5.out⟩
      · have h30I : ¬ (30 : Int) < (A.length : Int) := by omega
        go_wp2_with fail
        go_ret2
        exact ⟨_, _, rfl, fun _ => ⟨hq, hxk, hh, A, HO5.out, HPP.out.1, HPP.out.2, by omega⟩, HB5.out⟩
end Go.Proofs.YtlibipbpaigmdaaGreatDoor

namespace Go.Proofs.YtlibipbpaigmdaaGreatDoor
open Go.RowKit
set_option linter.unusedVariables false

/-- nodes that can be read -/
def Few (L : List Nd) : Prop := L.length ≤ 30 ∧ ∀ d ∈ L, FineN d ∧ d.n ≤ 100
theorem Few.fine {L : List Nd} (h : Few L) : Fine (gN L) L.length := fun i hi => (h.2 _ (gN_mem hi)).1
theorem Few.oku {w : World} {base : Nat} {v : Value} {L : List Nd} (h : Few L) (hO : OwnD w base v L) : OkUs (gN L) L.length := fun i hi => ⟨Nat.le_trans (h.2 _ (gN_mem hi)).2 (by decide), (hO.2 _ (gN_mem hi)).nil⟩
theorem FineN.like {d e : Nd} (h : FineN d) (hL : d.Like e) : FineN e := by
  obtain ⟨h1, h2, h3⟩ := h
  obtain ⟨_, _, _, k1, k2, k3, k4⟩ := hL
  refine ⟨by rw [← k1]; exact h1, by rw [← k2]; exact h2, fun j hj => ?_⟩
  rw [← k3] at hj
  rw [← k4]
  exact h3 j hj
theorem Few.put {L A : List Nd} {x : Nd} (h : Few L) (hx : FineN x) (hxn : x.n ≤ 100) (hP : PutP (gN L) L.length x A) (hA : A.length ≤ 30) : Few A := by
  refine ⟨hA, fun d hd => ?_⟩
  obtain ⟨i, hi, rfl⟩ := List.getElem_of_mem hd
  rw [← gN_at hi]
  have key : ∃ e : Nd, e.Like (gN A i) ∧ FineN e ∧ e.n ≤ 100 := by
    rcases hP with ⟨⟨hl, hk⟩, _⟩ | ⟨k, hk, ⟨hl, hk2⟩, _, _⟩
    · have hi' : i < L.length := by omega
      exact ⟨_, hk i hi', h.2 _ (gN_mem hi')⟩
    · have h1 := hk2 i (by omega)
      refine ⟨_, h1, ?_⟩
      unfold insD
      split
      · exact h.2 _ (gN_mem (by omega))
      · split
        · exact ⟨hx, hxn⟩
        · exact h.2 _ (gN_mem (by omega))
  obtain ⟨e, he, hf, hn⟩ := key
  exact ⟨hf.like he, by rw [← he.n]; exact hn⟩

theorem flat6_setS (S : Int) : ∀ (L : List Nd) (y : Nat), y < L.length → (flat6 L).set (y * 6 + 1) (.int .i64 S) = flat6 (L.set y { gN L y with s := S })
  | [], y, h => by cases h
  | d :: L, 0, _ => by
    show (cells6 d ++ flat6 L).set (0 * 6 + 1) _ = cells6 _ ++ flat6 L
    rw [List.set_append_left _ _ (by simp [cells6])]
    rfl
  | d :: L, y + 1, h => by
    show (cells6 d ++ flat6 L).set ((y + 1) * 6 + 1) _ = cells6 d ++ flat6 (L.set y _)
    rw [List.set_append_right _ _ (by simp [cells6]; omega), show (y + 1) * 6 + 1 - (cells6 d).length = y * 6 + 1 by simp [cells6]; omega, flat6_setS S L y (by simpa using h)]
    rfl
theorem OwnD.setS {w : World} {base g gc : Nat} {L : List Nd} (h : OwnD w base (.slice (some ⟨g, 0, none⟩) L.length gc) L) {y : Nat} (hy : y < L.length) (S : Int) : OwnD (w.setCell ⟨g, 0 + y * 6 + 1, none⟩ (.int .i64 S)) base (.slice (some ⟨g, 0, none⟩) L.length gc) (L.set y { gN L y with s := S }) := by
  obtain ⟨cs, hcs⟩ := own_blk h.1 (k := g) rfl
  have hk : ∀ d, UpO w base d → UpO (w.setCell ⟨g, 0 + y * 6 + 1, none⟩ (.int .i64 S)) base d := fun d hd => hd.keep fun k _ hc => Below.heap_setCell _ _ _ _ (show k ≠ g from fun e => by
    obtain ⟨c2, hc2⟩ := hc
    rw [e, hcs] at hc2
    simp at hc2)
  refine ⟨?_, fun d hd => ?_⟩
  · rw [← flat6_setS S L y hy, List.length_set, show 0 + y * 6 + 1 = y * 6 + 1 by omega]
    exact (World.ownsRow.stored h.1 _ _).1
  · rcases List.mem_or_eq_of_mem_set hd with hd | rfl
    · exact hk _ (h.2 _ hd)
    · obtain ⟨xs, e1, e2⟩ := h.2 (gN L y) (gN_mem hy)
      exact hk _ ⟨xs, e1, e2⟩
theorem Few.setS {L : List Nd} (h : Few L) {y : Nat} (hy : y < L.length) (S : Int) : Few (L.set y { gN L y with s := S }) := by
  refine ⟨by rw [List.length_set]; exact h.1, fun d hd => ?_⟩
  rcases List.mem_or_eq_of_mem_set hd with hd | rfl
  · exact h.2 _ hd
  · have e := h.2 (gN L y) (gN_mem hy)
    exact ⟨⟨e.1.1, e.1.2.1, e.1.2.2⟩, e.2⟩

section
variable {W : World} {a : Option Addr} {len cap R : Nat} {Z : Nat → Int}

/-- the worlds of the drawing of a dag -/
structure DS (W w0 : World) (a : Option Addr) (len cap R : Nat) (v : Value) (L : List Nd) (w : World) : Prop where
  draw : Draw W a len cap R w
  mt0 : Mut R w0 w
  own : OwnD w w0.heap.size v L
  few : Few L
  lt : R < w0.heap.size
theorem DS.step {w0 w w' : World} {v : Value} {L : List Nd} (h : DS W w0 a len cap R v L w) (hD : Draw W a len cap R w') (hM : Mut R w w') : DS W w0 a len cap R v L w' := by
  have := h.lt
  exact ⟨hD, h.mt0.trans hM, h.own.keep (fun k hk hs => hM.block k hs (by omega)), h.few, h.lt⟩
theorem DS.below {w0 w w' : World} {v : Value} {L : List Nd} (h : DS W w0 a len cap R v L w) (hB : Below w.heap.size w w') : DS W w0 a len cap R v L w' := h.step (h.draw.below hB) (Mut.of_below hB)
theorem DS.setS {w0 w : World} {g gc : Nat} {L : List Nd} (h : DS W w0 a len cap R (.slice (some ⟨g, 0, none⟩) L.length gc) L w) {y : Nat} (hy : y < L.length) (S : Int) : DS W w0 a len cap R (.slice (some ⟨g, 0, none⟩) L.length gc) (L.set y { gN L y with s := S }) (w.setCell ⟨g, 0 + y * 6 + 1, none⟩ (.int .i64 S)) := by
  have hg := (World.ownsRow.lt h.own.1 g rfl).1
  have h1 := h.lt
  have h2 := h.draw.new
  exact ⟨draw_set h.draw (by omega) (by omega) _ _, ⟨h.mt0.os, h.mt0.tape, h.mt0.output, by simpa [World.setCell] using h.mt0.size, fun k hk hr => (Below.heap_setCell _ _ _ _ (show k ≠ g by omega)).trans (h.mt0.block k hk hr)⟩, h.own.setS hy S, h.few.setS hy S, h.lt⟩

set_option maxRecDepth 20000 in
set_option maxHeartbeats 16000000 in
theorem dag_any (hU : IsU8 W a len cap Z) (most : Int) (hm : 1 ≤ most ∧ most ≤ 200) (w : World) (h : Draw W a len cap R w) :
    Calls Tryz.prog 104 #[.pointer (some ⟨R, 0, none⟩), .int .i64 most] w fun e w' => ∃ g gc L n, n = L.length ∧ e = .returned (.slice (some ⟨g, 0, none⟩) n gc) ∧ DS W w a len cap R (.slice (some ⟨g, 0, none⟩) n gc) L w' := by
  have HU := (show Hid _ from hU)
  have HM : Hid (1 ≤ most ∧ most ≤ 200) := hm
  have hO0 : OwnD (w.alloc (.cells #[] 50)) w.heap.size (.slice (some ⟨w.heap.size, 0, none⟩) 0 0) [] := ⟨World.ownsRow_made w #[] 0 (Nat.le_refl _) (by decide) rfl, fun d hd => by cases hd⟩
  have HS0 : Hid (DS W w a len cap R (.slice (some ⟨w.heap.size, 0, none⟩) 0 0) [] (w.alloc (.cells #[] 50))) := ⟨h.alloc _, (Mut.refl R w).alloc _, hO0, ⟨by decide, fun d hd => by cases hd⟩, h.lt⟩
  clear hU h hO0
  go_enter Tryz.func104, Tryz.ntmps104
  have hm1 := HM.out
  go_wp2_with fail
  refine (below_any HU.out (most + 1) (by omega) (by omega) _ HS0.out.draw).mono ?_
  rintro e w1 ⟨x1, hx0, hx1, rfl, hD1, hM1⟩
  have HS1 : Hid (DS W w a len cap R (.slice (some ⟨w.heap.size, 0, none⟩) 0 0) [] w1) := HS0.out.step hD1 hM1
  obtain ⟨k1, hk1⟩ : ∃ k : Nat, x1 = k := ⟨x1.toNat, by omega⟩
  subst hk1
  have HK1 : Hid (k1 ≤ 200) := by show k1 ≤ 200; omega
  clear hD1 hM1 HS0 hx0 hx1 hm1
  go_wp2_with fail
  go_loopw [5, 6] (fun d i wr => ∃ (k g gc : Nat) (L : List Nd), k ≤ 200 ∧ i = .int .i64 k ∧ d = .slice (some ⟨g, 0, none⟩) L.length gc ∧ Hid (DS W w a len cap R (.slice (some ⟨g, 0, none⟩) L.length gc) L wr)) (fun _ i _ => (Go.RowKit.intOf i).toNat)
  case atStart => exact ⟨k1, w.heap.size, 0, [], HK1.out, rfl, rfl, HS1⟩
  case round =>
    obtain ⟨k, g, gc, L, hk, rfl, rfl, HSS⟩ := hrel
    obtain ⟨_, cx, hve, hND, _⟩ := HSS.out.own.nds
    have hgc1 : L.length ≤ gc := by
      simp only [Value.slice.injEq] at hve
      rw [hve.2.2]; exact hND.1
    have hgc2 : gc ≤ 9223372036854775807 := by
      simp only [Value.slice.injEq] at hve
      rw [hve.2.2]; exact hND.2.1
    have HGC : Hid (L.length ≤ gc ∧ gc ≤ 9223372036854775807) := ⟨hgc1, hgc2⟩
    clear HS1 HK1 hve hND
    by_cases hk0 : 0 < k
    · have hk0I : (0 : Int) < (k : Int) := by omega
      go_wp2_with fail
      refine (node_any HU.out w.heap.size g gc L wr HSS.out.draw HSS.out.own HSS.out.lt HSS.out.mt0.size HSS.out.few.fine HSS.out.few.1).mono ?_
      rintro e w2 ⟨xx, rfl, hxo, hxd, hD2, hM2⟩
      have hs2 := HSS.out.step hD2 hM2
      have HS2 : Hid (DS W w a len cap R (.slice (some ⟨g, 0, none⟩) L.length gc) L w2) := hs2
      have HXD : Hid (DN L xx) := hxd
      have hI2 : IsNds w2 (some ⟨g, 0, none⟩) L.length gc (gN L) := by
        obtain ⟨u, c, e, hI, _⟩ := hs2.own.nds
        simp only [Value.slice.injEq] at e
        rw [← e.1, ← e.2.2] at hI
        exact hI
      have HAD : Hid (Calls Tryz.prog 158 #[.slice (some ⟨g, 0, none⟩) L.length gc, .agg #[.int .i64 xx.a, .int .i64 xx.s, .int .i64 xx.k, .string xx.key, .string xx.text, .slice xx.u xx.n xx.cap]] w2 fun e w' => ∃ v r, e = .returned (.tuple #[v, .bool r]) ∧ (r = true → dagB (gN L) L.length = true ∧ xx.ok = true ∧ hasB (ids (gN L)) L.length xx.S xx.n = true ∧ ∃ A, OwnD w' w2.heap.size v A ∧ PutP (gN L) L.length xx A ∧ v ≠ .slice none 0 0 ∧ A.length ≤ 30) ∧ Below w2.heap.size w2 w') := specAdded_any g 0 L.length gc (gN L) xx w2 hI2 hs2.few.fine (hs2.few.oku hs2.own) hs2.few.1 hxo.strs ⟨Nat.le_trans hxd.few (by decide), hxo.nil⟩ hxd.fine
      clear hxo hxd hD2 hM2 hs2 hI2 HSS
      go_wp2_with fail
      refine HAD.out.mono ?_
      rintro e w3 ⟨v, r, rfl, hr, hB3⟩
      cases r with
      | false =>
        have HS3 : Hid (DS W w a len cap R (.slice (some ⟨g, 0, none⟩) L.length gc) L w3) := HS2.out.below hB3
        clear hr hB3 HAD HS2
        go_wp2_with fail
        exact ⟨⟨k - 1, g, gc, L, by omega, by go_num, rfl, HS3⟩, by simp [Go.RowKit.intOf]; omega⟩
      | true =>
        obtain ⟨_, _, _, A, hO3, hP3, hv3, hA3⟩ := hr rfl
        have hs3 := HS2.out.below hB3
        have HS3 : Hid (DS W w a len cap R v A w3) := ⟨hs3.draw, hs3.mt0, hO3.base HS2.out.mt0.size, HS2.out.few.put HXD.out.fine HXD.out.few hP3 hA3, hs3.lt⟩
        have hsh : ∃ g' gc', v = .slice (some ⟨g', 0, none⟩) A.length gc' := by
          rcases hO3.1.2 with ⟨e1, _⟩ | ⟨g', c', cur, e1, _⟩
          · exact absurd e1 hv3
          · exact ⟨g', c', e1⟩
        obtain ⟨g', gc', rfl⟩ := hsh
        clear hr hB3 HAD HS2 hO3 hP3 hv3 hs3
        go_wp2_with fail
        exact ⟨⟨k - 1, g', gc', A, by omega, by go_num, rfl, HS3⟩, by simp [Go.RowKit.intOf]; omega⟩
    · have hk0I : ¬ (0 : Int) < (k : Int) := by omega
      go_wp2_with fail
      refine (once_any HU.out 40 (by omega) (by omega) _ HSS.out.draw).mono ?_
      rintro e w9 ⟨c9, rfl, hD9, hM9⟩
      have HS9 : Hid (DS W w a len cap R (.slice (some ⟨g, 0, none⟩) L.length gc) L w9) := HSS.out.step hD9 hM9
      clear hD9 hM9 HSS
      cases c9 with
      | false =>
        go_wp2_with fail
        go_ret
        exact ⟨g, gc, L, L.length, rfl, rfl, HS9.out⟩
      | true =>
        by_cases hl0 : 0 < L.length
        · have hl0I : (0 : Int) < (L.length : Int) := by omega
          go_wp2_with fail
          refine (belowN_any HU.out L.length hl0 (by have := HS9.out.few.1; omega) _ HS9.out.draw).mono ?_
          rintro e w10 ⟨y, hy, rfl, hD10, hM10⟩
          have HS10 : Hid (DS W w a len cap R (.slice (some ⟨g, 0, none⟩) L.length gc) L w10) := HS9.out.step hD10 hM10
          clear hD10 hM10 HS9
          have hyI : (y : Int) < (L.length : Int) := by omega
          go_wp2_with fail
          refine (off19_any HU.out _ HS10.out.draw).mono ?_
          rintro e w11 ⟨x11, _, _, rfl, hD11, hM11⟩
          have hs11 := HS10.out.step hD11 hM11
          have HS11 : Hid (DS W w a len cap R (.slice (some ⟨g, 0, none⟩) L.length gc) L w11) := hs11
          have q1 := (ownD_at hs11.own hy).1.c1
          have q2 : w11.frozen? ⟨g, 0 + y * 6 + 1, none⟩ = false := by
            obtain ⟨cs, hcs⟩ := own_blk hs11.own.1 (k := g) rfl
            exact frozN hcs
          have HS12 : Hid (DS W w a len cap R (.slice (some ⟨g, 0, none⟩) L.length gc) (L.set y { gN L y with s := x11 }) (w11.setCell ⟨g, 0 + y * 6 + 1, none⟩ (.int .i64 x11))) := hs11.setS hy x11
          clear hD11 hM11 hs11 HS10
          simp only [Nat.zero_add] at q1 q2 HS12
          go_wp2_with fail
          go_ret
          exact ⟨g, gc, L.set y { gN L y with s := x11 }, L.length, (List.length_set).symm, rfl, HS12.out⟩
        · have hl0I : ¬ (0 : Int) < (L.length : Int) := by omega
          go_wp2_with fail
          go_ret
          exact ⟨g, gc, L, L.length, rfl, rfl, HS9.out⟩
end
end Go.Proofs.YtlibipbpaigmdaaGreatDoor
