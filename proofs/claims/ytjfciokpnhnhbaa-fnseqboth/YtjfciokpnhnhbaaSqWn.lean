/-
  One op more behind a sequence: plain facts, and what the regions keep. No condition.
-/
import Derived.Test.YtjfciokpnhnhbaaSqFm
namespace Go.Proofs.Ytjfciokpnhnhbaa
open Go.RowKit
set_option linter.unusedVariables false

/-- a sequence with one op more -/
def snocD (D : Nat → Ev) (n : Nat) (x : Ev) (i : Nat) : Ev := (listD D n ++ [x]).getD i evZ
/-- the next Id of an author -/
def nid (D : Nat → Ev) (n : Nat) (author : Int) : Int := 10 * (lastA D n / 10 + 1) + author
/-- right before, and right with the op -/
def okW (D : Nat → Ev) (n : Nat) (author : Int) (x : Ev) : Bool := seqB D n && inB 1 9 author && seqB (snocD D n x) (n + 1)
def outW (D : Nat → Ev) (n : Nat) (author : Int) (x : Ev) : List Ev := if okW D n author x then listD D n ++ [x] else []
def opW (D : Nat → Ev) (n : Nat) (author : Int) (x : Ev) : Ev := if okW D n author x then x else evZ
theorem snoc_len (D : Nat → Ev) (n : Nat) (x : Ev) : (listD D n ++ [x]).length = n + 1 := by rw [List.length_append, listD_len]; rfl
theorem last_in {D : Nat → Ev} {n : Nat} (h : seqB D n = true) : 0 ≤ lastA D n ∧ lastA D n ≤ 1000000 := by
  obtain ⟨_, ho⟩ := seqB_parts h
  unfold lastA
  split
  · omega
  · have := ok_pos ho (i := n - 1) (by omega)
    omega
theorem snoc_in {D : Nat → Ev} {n : Nat} {x : Ev} (h : ∀ i, i < n → (D i).in) (hx : x.in) : ∀ i, i < n + 1 → (snocD D n x i).in := fun i hi => by
  by_cases e : i < n
  · have : snocD D n x i = D i := by
      unfold snocD
      rw [List.getD_eq_getElem?_getD, List.getElem?_append_left (by rw [listD_len]; exact e), ← List.getD_eq_getElem?_getD]
      exact listD_at D n i e
    rw [this]
    exact h i e
  · have : snocD D n x i = x := by
      have e' : i = n := by omega
      subst e'
      unfold snocD
      rw [List.getD_eq_getElem?_getD, List.getElem?_append_right (by rw [listD_len]; exact Nat.le_refl _), listD_len]
      simp
    rw [this]
    exact hx
theorem okW_of {D : Nat → Ev} {n : Nat} {author : Int} {x : Ev} {b c d : Bool} (h1 : seqB D n = b) (h2 : inB 1 9 author = c) (h3 : seqB (snocD D n x) (n + 1) = d) : okW D n author x = (b && c && d) := by unfold okW; rw [h1, h2, h3]
theorem okW_no1 {D : Nat → Ev} {n : Nat} {author : Int} {x : Ev} (h1 : (seqB D n && inB 1 9 author) = false) : okW D n author x = false := by unfold okW; rw [h1]; rfl
theorem okW_no2 {D : Nat → Ev} {n : Nat} {author : Int} {x : Ev} (h1 : seqB (snocD D n x) (n + 1) = false) : okW D n author x = false := by unfold okW; rw [h1, Bool.and_false]
/-- the box of an op and the row of the result -/
structure Two (W : World) (p q M : Nat) (X : Ev) (w : World) : Prop where
  bel : Below W.heap.size W w
  lp : W.heap.size ≤ p
  lq : W.heap.size ≤ q
  pM : p < M
  qM : q < M
  ne : p ≠ q
  sz : M ≤ w.heap.size
  bx : w.heap[p]? = some (.cells (enc4 X).toArray 36 (0, 0))
  row : ∃ c : Array Value, c.size = 4 ∧ w.heap[q]? = some (.cells c 36 (0, 0))
theorem Two.below {W : World} {p q M : Nat} {X : Ev} {w w' : World} (h : Two W p q M X w) (hB : Below M w w') : Two W p q M X w' := by
  obtain ⟨c, hc, hr⟩ := h.row
  exact ⟨h.bel.trans (hB.mono (by have := h.lp; have := h.pM; omega)), h.lp, h.lq, h.pM, h.qM, h.ne, Nat.le_trans h.sz hB.size, (hB.block _ h.pM).trans h.bx, c, hc, (hB.block _ h.qM).trans hr⟩
theorem Two.draws {W : World} {p q M : Nat} {X : Ev} {w : World} (h : Two W p q M X w) : Two W p q M X w.drew := ⟨h.bel.trans ((Below.refl _ _).drew), h.lp, h.lq, h.pM, h.qM, h.ne, h.sz, h.bx, h.row⟩
/-- nothing but one row has changed -/
structure Sm (w0 : World) (q : Nat) (w : World) : Prop where
  blk : ∀ k, k ≠ q → w.heap[k]? = w0.heap[k]?
  size : w.heap.size = w0.heap.size
  os : w.os = w0.os
  tape : w.tape = w0.tape
  output : w.output = w0.output
  row : ∃ c : Array Value, c.size = 4 ∧ w.heap[q]? = some (.cells c 36 (0, 0))
theorem Two.ends {W : World} {p q M : Nat} {X : Ev} {w w' : World} {v : Value} {L : List Ev} (h : Two W p q M X w) (hs : Sm w q w') (hO : OwnV w M v L) : OwnV w' W.heap.size v L ∧ Below W.heap.size W w' := by
  refine ⟨(hO.at (fun k hk => hs.blk k ?_)).base (by have := h.lp; have := h.pM; omega), ⟨hs.os.trans h.bel.os, hs.tape.trans h.bel.tape, hs.output.trans h.bel.output, by rw [hs.size]; exact h.bel.size, fun k hk => (hs.blk k (by have := h.lq; omega)).trans (h.bel.block k hk)⟩⟩
  have := (World.ownsRow.lt hO k hk).1
  have := h.qM
  omega
theorem Two.row4 {W : World} {p q M : Nat} {X : Ev} {w : World} (h : Two W p q M X w) : ∃ v0 v1 v2 v3, w.heap[q]? = some (.cells #[v0, v1, v2, v3] 36 (0, 0)) := by
  obtain ⟨⟨l⟩, hc, hr⟩ := h.row
  match l, hc with
  | [v0, v1, v2, v3], _ => exact ⟨v0, v1, v2, v3, hr⟩
theorem own_snoc {w : World} {M g n c : Nat} {D : Nat → Ev} {X : Ev} (h : OwnV w M (.slice (some ⟨g, 0, none⟩) (n + 1) c) (listD D n ++ [X])) : IsEvs w (some ⟨g, 0, none⟩) (n + 1) c (snocD D n X) := by
  obtain ⟨a, cap, e, hE⟩ := h.evs
  rw [snoc_len] at e hE
  simp only [Value.slice.injEq] at e
  obtain ⟨rfl, _, rfl⟩ := e
  exact hE
theorem wpOp_storeE {ops : Array Oper} {Q : Exit → Act → World → Prop} {i : Nat} {o : Oper} {K : Act → World → Prop} {t : Act} {w : World} (ho : ops[i]? = some o) (hg : Region.wanted o (yielded ops t.tmps) = true) (x y : Operand) (r : Nat) (z : Ev) {p : Array Value} (h : o.op = .store 36 x y) (hx : t.eval x = .pointer (some ⟨r, 0, none⟩)) (hy : t.eval y = .agg (enc4 z).toArray) (hp : p.size = 4) (hb : w.heap[r]? = some (.cells p 36 (0, 0)))
    (hK : ∀ w', w'.heap[r]? = some (.cells (enc4 z).toArray 36 (0, 0)) → (∀ q, q ≠ r → w'.heap[q]? = w.heap[q]?) → w'.heap.size = w.heap.size → w'.os = w.os → w'.tape = w.tape → w'.output = w.output → K (t.put o.dst undef) w') : wpOp Try.prog ops Q i K t w := by
  obtain ⟨w', hrun, z1, z2, z3, z4, z5, z6⟩ := q_storeE t.eval o w x y r z h hx hy hp hb
  exact runS ho hg hrun (hK w' z1 z2 z3 z4 z5 z6)
def useA (i j : Nat) : Bool := i == 4 && (j == 1 || j == 3)
def useS (i j : Nat) : Bool := (i == 2 && j == 0) || (i == 5 && (j == 2 || j == 4))
theorem enters_clone : ∀ args w, (callFunc 28 args).run Try.prog w = .ok (.enter 28 args) w := enters_of Try.func28 (by kernel_rfl) rfl
def dsWa : List Nat := [37, 38, 39, 40, 41, 10]
def slotWa (j : Nat) : Nat := dsWa.getD j 0
theorem slotWa_inj (i j : Nat) (hi : i < 6) (hj : j < 6) (q : slotWa i = slotWa j) : i = j := by
  have h : ∀ i : Fin 6, ∀ j : Fin 6, slotWa i.val = slotWa j.val → i.val = j.val := by decide
  exact h ⟨i, hi⟩ ⟨j, hj⟩ q
theorem slotWa_mem (i : Nat) (hi : i < 6) : slotWa i ∈ dsWa := by
  have h : ∀ i : Fin 6, slotWa i.val ∈ dsWa := by decide
  exact h ⟨i, hi⟩
def dsWr : List Nat := [46, 47, 6, 44, 8]
def slotWr (j : Nat) : Nat := dsWr.getD j 0
theorem slotWr_inj (i j : Nat) (hi : i < 5) (hj : j < 5) (q : slotWr i = slotWr j) : i = j := by
  have h : ∀ i : Fin 5, ∀ j : Fin 5, slotWr i.val = slotWr j.val → i.val = j.val := by decide
  exact h ⟨i, hi⟩ ⟨j, hj⟩ q
theorem slotWr_mem (i : Nat) (hi : i < 5) : slotWr i ∈ dsWr := by
  have h : ∀ i : Fin 5, slotWr i.val ∈ dsWr := by decide
  exact h ⟨i, hi⟩

theorem authorOk_any (z : Int) (w : World) : Calls Try.prog 25 #[.int .i64 z] w fun e w' => e = .returned (.bool (inB 1 9 z)) ∧ w' = w := by
  unfold inB
  by_cases h1 : 1 ≤ z
  · by_cases h2 : z ≤ 9
    · rw [decide_eq_true h1, decide_eq_true h2]
      go_enter Try.func25, Try.ntmps25
      go_wp2
      go_ret
      exact ⟨rfl, rfl⟩
    · rw [decide_eq_true h1, decide_eq_false h2]
      go_enter Try.func25, Try.ntmps25
      go_wp2
      go_ret
      exact ⟨rfl, rfl⟩
  · rw [decide_eq_false h1]
    go_enter Try.func25, Try.ntmps25
    go_wp2
    go_ret
    exact ⟨rfl, rfl⟩
end Go.Proofs.Ytjfciokpnhnhbaa
