/-
  What is settled, plainly: the ids behind which all is covered by the numbers. No condition.
  Slices of nodes that are the call's own: with their ups they lie at or above a base; appends of texts and of nodes. No condition.
  The specification's copies of nodes and of slices of nodes: new memory, the same nodes. No condition but that they read.
  The specification's l6Put: the nodes with one more at its place; all copied. No condition but that they read.
  The reader of codes, its small methods: whatever the code, they return a number in its range, and leave all memory but the reader's own as it was. Condition: the code reads as bytes.
-/
import Derived.Test.YtlibipbpaigmdaaGreatDoorDgB
import Derived.Test.YtlibipbpaigmdaaGreatDoorDgA
import Derived.Laws.OwnMore
import Derived.Test.YtlibipbpaigmdaaGreatDoorDag4
import Derived.Test.YtlibipbpaigmdaaGreatDoorBase
namespace Go.Proofs.YtlibipbpaigmdaaGreatDoor
open Go.RowKit
set_option linter.unusedVariables false

/-- the number for the author of d -/
def numOf (cs : List Int) (d : Nd) : Int := cs.getD (d.a - 1).toNat 0
/-- node d is covered -/
def covB (cs : List Int) (d : Nd) : Bool := decide (d.s ≤ numOf cs d)
def one (x : ByteArray) : Nat → ByteArray := fun _ => x
/-- all that stands behind x, and x, is covered -/
def CovP (D : Nat → Nd) (len : Nat) (cs : List Int) (x : ByteArray) : Prop := ∀ i, i < len → Reach D len (one x) 1 (ids D i).toList → covB cs (D i) = true
/-- x is the id of a node, and settled -/
def SetP (D : Nat → Nd) (len : Nat) (cs : List Int) (x : List UInt8) : Prop := IsId D len x ∧ CovP D len cs (tx x)

theorem tx_toList (x : ByteArray) : tx x.toList = x := by unfold tx; rw [ByteArray.toList_eq]

theorem reach_one {D : Nat → Nd} {len i : Nat} (hi : i < len) : Reach D len (one (ids D i)) 1 (ids D i).toList := .base (T := one (ids D i)) 0 i (by omega) hi rfl

/-- a right node's author -/
theorem author_in {d : Nd} (h : d.ok = true) : 1 ≤ d.a ∧ d.a ≤ 9 := by
  unfold Nd.ok nodeB at h
  simp only [Bool.and_eq_true] at h
  have h1 := h.1
  simp only [Bool.and_eq_true, inB, decide_eq_true_eq] at h1
  grind
theorem ok_at {D : Nat → Nd} {len i : Nat} (hq : dagB D len = true) (hi : i < len) : (D i).ok = true := (dagB_parts hq).2.1 i hi
end Go.Proofs.YtlibipbpaigmdaaGreatDoor

namespace Go.Proofs.YtlibipbpaigmdaaGreatDoor
open Go.RowKit
set_option linter.unusedVariables false

theorem own_blk {w : World} {base size n k : Nat} {t : TypeId} {v : Value} {xs : List Value} (h : w.ownsRow base t size v n xs) (hk : v.ownBlock = some k) : ∃ cs, w.heap[k]? = some (.cells cs t (0, 0)) := by
  rcases h.2 with ⟨rfl, _⟩ | ⟨g, cap, cur, rfl, _, hh, _⟩
  · cases hk
  · cases hk
    exact ⟨_, hh⟩
theorem own_keep {w w' : World} {base size n : Nat} {t : TypeId} {v : Value} {xs : List Value} (h : w.ownsRow base t size v n xs) (he : ∀ k, v.ownBlock = some k → w'.heap[k]? = w.heap[k]?) : w'.ownsRow base t size v n xs := by
  obtain ⟨h1, h2⟩ := h
  refine ⟨h1, ?_⟩
  rcases h2 with h2 | ⟨g, cap, cur, hv, hg, hh, r⟩
  · exact .inl h2
  · refine .inr ⟨g, cap, cur, hv, hg, ?_, r⟩
    subst hv
    exact (he g rfl).trans hh

/-- the ups of node d lie in memory of the call's own -/
def UpO (w : World) (base : Nat) (d : Nd) : Prop := ∃ xs, w.ownsRow base 9 1 (.slice d.u d.n d.cap) d.n xs ∧ ∀ i, i < d.n → xs[i]? = some (.string (d.S i))
theorem UpO.keep {w w' : World} {base : Nat} {d : Nd} (h : UpO w base d) (he : ∀ k, base ≤ k → (∃ cs, w.heap[k]? = some (.cells cs 9 (0, 0))) → w'.heap[k]? = w.heap[k]?) : UpO w' base d := by
  obtain ⟨xs, ho, hx⟩ := h
  exact ⟨xs, own_keep ho (fun k hk => he k (World.ownsRow.lt ho k hk).1 (own_blk ho hk)), hx⟩
theorem UpO.base {w : World} {base base' : Nat} {d : Nd} (h : UpO w base d) (hb : base' ≤ base) : UpO w base' d := by
  obtain ⟨xs, ho, hx⟩ := h
  exact ⟨xs, mono_base ho hb, hx⟩
theorem UpO.strs {w : World} {base : Nat} {d : Nd} (h : UpO w base d) : IsStrs w d.u d.n d.cap d.S := by
  obtain ⟨xs, ho, hx⟩ := h
  obtain ⟨a', cap', e', hI⟩ := strs_of_own ho hx
  simp only [Value.slice.injEq, true_and] at e'
  obtain ⟨rfl, rfl⟩ := e'
  exact hI
theorem UpO.nil {w : World} {base : Nat} {d : Nd} (h : UpO w base d) : d.u = none → d.n = 0 ∧ d.cap = 0 := fun hu => by
  obtain ⟨xs, ho, hx⟩ := h
  rw [hu] at ho
  rcases ho.2 with ⟨e, _⟩ | ⟨g, cap, cur, e, _⟩
  · simp only [Value.slice.injEq, true_and] at e
    exact e
  · simp at e

/-- the cells of a node -/
def cells6 (d : Nd) : List Value := [.int .i64 d.a, .int .i64 d.s, .int .i64 d.k, .string d.key, .string d.text, .slice d.u d.n d.cap]
theorem cells6_one (d : Nd) : ∀ u ∈ cells6 d, u.oneCell' = true := by
  intro u hu
  unfold cells6 at hu
  simp at hu
  rcases hu with rfl | rfl | rfl | rfl | rfl | rfl <;> rfl
def flat6 (L : List Nd) : List Value := L.flatMap cells6
theorem flat6_len (L : List Nd) : (flat6 L).length = L.length * 6 := by
  induction L with
  | nil => rfl
  | cons d L ih => unfold flat6 at *; rw [List.flatMap_cons, List.length_append, ih]; simp [cells6]; omega
theorem flat6_at (L : List Nd) {i j : Nat} (hi : i < L.length) (hj : j < 6) : (flat6 L)[i * 6 + j]? = (cells6 L[i])[j]? := by
  induction L generalizing i with
  | nil => simp at hi
  | cons d L ih =>
    unfold flat6 at *
    rw [List.flatMap_cons]
    cases i with
    | zero => rw [List.getElem?_append_left (by simp [cells6]; omega)]; simp
    | succ i =>
      rw [List.getElem?_append_right (by simp [cells6]; omega)]
      have e : (i + 1) * 6 + j - (cells6 d).length = i * 6 + j := by simp [cells6]; omega
      rw [e, ih (by simpa using hi)]
      simp
theorem flat6_one (L : List Nd) : ∀ u ∈ flat6 L, u.oneCell' = true := by
  intro u hu
  unfold flat6 at hu
  obtain ⟨d, _, hd⟩ := List.mem_flatMap.1 hu
  exact cells6_one d u hd

def ndZ : Nd := ⟨0, 0, 0, ⟨#[]⟩, ⟨#[]⟩, none, 0, 0, fun _ => ⟨#[]⟩⟩
def gN (L : List Nd) (i : Nat) : Nd := L.getD i ndZ
theorem gN_at {L : List Nd} {i : Nat} (h : i < L.length) : gN L i = L[i] := by unfold gN; simp [h]
theorem gN_mem {L : List Nd} {i : Nat} (h : i < L.length) : gN L i ∈ L := by rw [gN_at h]; exact List.getElem_mem h

/-- a slice of nodes of the call's own, with their ups -/
def OwnD (w : World) (base : Nat) (v : Value) (L : List Nd) : Prop := w.ownsRow base 50 6 v L.length (flat6 L) ∧ ∀ d ∈ L, UpO w base d
theorem OwnD.keep {w w' : World} {base : Nat} {v : Value} {L : List Nd} (h : OwnD w base v L) (he : ∀ k, base ≤ k → k < w.heap.size → w'.heap[k]? = w.heap[k]?) : OwnD w' base v L :=
  ⟨own_keep h.1 (fun k hk => he k (World.ownsRow.lt h.1 k hk).1 (World.ownsRow.lt h.1 k hk).2), fun d hd => (h.2 d hd).keep (fun k hk ⟨cs, hc⟩ => he k hk (lt_of_block hc))⟩
theorem OwnD.below {w w' : World} {base : Nat} {v : Value} {L : List Nd} (h : OwnD w base v L) (hB : Below w.heap.size w w') : OwnD w' base v L := h.keep (fun k _ hk => hB.block k hk)
theorem OwnD.base {w : World} {base base' : Nat} {v : Value} {L : List Nd} (h : OwnD w base v L) (hb : base' ≤ base) : OwnD w base' v L := ⟨mono_base h.1 hb, fun d hd => (h.2 d hd).base hb⟩
theorem OwnD.nds {w : World} {base : Nat} {v : Value} {L : List Nd} (h : OwnD w base v L) : ∃ a cap, v = .slice a L.length cap ∧ IsNds w a L.length cap (gN L) ∧ (L ≠ [] → a ≠ none) := by
  obtain ⟨ho, hu⟩ := h
  rcases ho.2 with ⟨rfl, h2⟩ | ⟨g, cap, cur, rfl, hb, hh, hnc, hcm, r⟩
  · have h0 : L = [] := by
      have := flat6_len L
      rw [h2] at this
      have h3 : L.length = 0 := by simp at this; first | omega | (rw [this]; rfl)
      exact List.eq_nil_of_length_eq_zero h3
    subst h0
    exact ⟨none, 0, rfl, ⟨Nat.le_refl _, by omega, fun h => absurd h (Nat.lt_irrefl _)⟩, fun h => absurd rfl h⟩
  · refine ⟨some ⟨g, 0, none⟩, cap, rfl, ⟨hnc, by unfold maxLen at hcm; omega, fun hp => ⟨g, 0, rfl, lt_of_block hh, fun i hi => ?_⟩⟩, fun _ h => by cases h⟩
    have hc : ∀ j, j < 6 → w.cell? ⟨g, 0 + i * 6 + j, none⟩ = (cells6 (gN L i))[j]? := fun j hj => by
      rw [Nat.zero_add, gN_at hi, ← flat6_at L hi hj]
      exact World.ownsRow.cellAt ho (i * 6 + j) (by rw [Nat.mul_comm]; omega)
    have c0 := hc 0 (by omega)
    exact ⟨by simpa [cells6] using c0, by simpa [cells6] using hc 1 (by omega), by simpa [cells6] using hc 2 (by omega), by simpa [cells6] using hc 3 (by omega), by simpa [cells6] using hc 4 (by omega), by simpa [cells6] using hc 5 (by omega), (hu _ (gN_mem hi)).strs⟩

/-- texts behind texts -/
theorem appS_run (w : World) (base : Nat) (ty : TypeId) (v : Value) (n : Nat) (xs : List Value) (u : Option Addr) (m uc : Nat) (S : Nat → ByteArray) (hv : w.ownsRow base 9 1 v n xs) (hu : IsStrs w u m uc S) (h0 : u = none → m = 0 ∧ uc = 0) (hl : n + m ≤ 1000000) (hb : base ≤ w.heap.size) :
    ∃ v' w', (Builtin.append_ #[25, 25] ty #[v, .slice u m uc]).run Tryz.prog w = .ok v' w' ∧ w'.ownsRow base 9 1 v' (n + m) (xs ++ (List.range m).map fun i => .string (S i)) ∧ w.grownBy w' v.ownBlock := by
  obtain ⟨i0, hi, hz0, hz1, hz2⟩ := info_parts info9
  cases u with
  | none =>
    obtain ⟨rfl, rfl⟩ := h0 rfl
    exact ⟨v, w, run_append_owned_none (P := Tryz.prog) w base 25 ty 9 i0 1 Tryz.underlying25 hi v n xs hv, by simpa using hv, World.grownBy.refl _ _⟩
  | some p =>
    obtain ⟨hlc, hcm, hc⟩ := hu
    have hn : ∀ j z, ((List.range m).map fun i => Value.string (S i))[j]? = some z → w.cell? (p.add j) = some z := fun j z hz => by
      by_cases hj : j < m
      · obtain ⟨b, off, e, _, hcell⟩ := hc (by omega)
        cases e
        rw [add_at, hcell j hj, ← hz]
        simp [hj]
      · rw [List.getElem?_eq_none (by simp; omega)] at hz
        cases hz
    obtain ⟨v', w', hr, h2, h3, h4⟩ := run_append_own (P := Tryz.prog) w base 25 ty 9 i0 (.string ⟨#[]⟩) 1 16 Tryz.underlying25 hi hz0 hz1 hz2 rfl (by decide) v n xs hv p m uc ((List.range m).map fun i => .string (S i)) (by simp) hn (by intro z hz; obtain ⟨i, _, rfl⟩ := List.mem_map.1 hz; rfl) (by unfold maxLen; omega) (by omega) hb
    exact ⟨v', w', hr, h2, h3⟩
theorem wpList_appS {ops : Array Oper} {Q : Exit → Act → World → Prop} {a : Act} {w : World} {rest : List Oper} {o : Oper} (hw : Region.wanted o (yielded ops a.tmps) = true) (x y : Operand)
    (h : o.op = .call { callee := .builtin .append, args := #[x, y], argTypes := #[25, 25] }) (base : Nat) (v : Value) (n : Nat) (xs : List Value) (u : Option Addr) (m uc : Nat) (S : Nat → ByteArray) (hx : a.eval x = v) (hy : a.eval y = .slice u m uc)
    (hv : w.ownsRow base 9 1 v n xs) (hu : IsStrs w u m uc S) (h0 : u = none → m = 0 ∧ uc = 0) (hl : n + m ≤ 1000000) (hb : base ≤ w.heap.size)
    (hK : ∀ v' w', w'.ownsRow base 9 1 v' (n + m) (xs ++ (List.range m).map fun i => .string (S i)) → w.grownBy w' v.ownBlock → wpList Tryz.prog ops Q rest (a.put o.dst v') w') : wpList Tryz.prog ops Q (o :: rest) a w :=
  BigFrame.wpList_want hw fun K hK' => by
    obtain ⟨v', w', hr, h1, h2⟩ := appS_run w base o.type v n xs u m uc S hv hu h0 hl hb
    unfold Oper.wp execOp
    simp only [h, resolve, invoke, builtin, Sem.run_bind, Sem.run_pure, Result.andThen_ok, List.map_toArray, List.map_cons, List.map_nil, hx, hy, hr]
    exact hK' _ _ (hK v' w' h1 h2)

theorem info6 : (Tryz.prog.info? 50).map (fun i => (i.zero, i.size, i.bytes)) = some (some (.agg #[.int .i64 0, .int .i64 0, .int .i64 0, .string ⟨#[]⟩, .string ⟨#[]⟩, .slice none 0 0]), 6, 80) := by kernel_rfl

/-- nodes behind nodes: from cells that lie -/
theorem appD_run (w : World) (base : Nat) (ty : TypeId) (v : Value) (A C : List Nd) (u : Option Addr) (uc : Nat) (hv : OwnD w base v A) (hu : C ≠ [] → ∃ g o, u = some ⟨g, o, none⟩ ∧ ∀ j z, (flat6 C)[j]? = some z → w.cell? ⟨g, o + j, none⟩ = some z) (hC : ∀ d ∈ C, UpO w base d) (h0 : u = none → uc = 0) (hl : A.length + C.length ≤ 1000) (hb : base ≤ w.heap.size) :
    ∃ v' w', (Builtin.append_ #[28, 28] ty #[v, .slice u C.length uc]).run Tryz.prog w = .ok v' w' ∧ OwnD w' base v' (A ++ C) ∧ w.grownBy w' v.ownBlock := by
  obtain ⟨i0, hi, hz0, hz1, hz2⟩ := info_parts info6
  have kup : ∀ w', w.grownBy w' v.ownBlock → ∀ d, UpO w base d → UpO w' base d := fun w' hg d hd => hd.keep (fun k _ ⟨cs, hc⟩ => hg.block k (lt_of_block hc) (fun e => by
    obtain ⟨cs', hc'⟩ := own_blk hv.1 e.symm
    rw [hc] at hc'
    simp at hc'))
  cases u with
  | none =>
    have hC0 : C = [] := by
      cases C with
      | nil => rfl
      | cons d C => obtain ⟨g, o, e, _⟩ := hu (by simp); cases e
    subst hC0
    obtain rfl := h0 rfl
    exact ⟨v, w, run_append_owned_none (P := Tryz.prog) w base 28 ty 50 i0 6 Tryz.underlying28 hi v A.length (flat6 A) hv.1, by simpa using hv, World.grownBy.refl _ _⟩
  | some p =>
    have hn : ∀ j z, (flat6 C)[j]? = some z → w.cell? (p.add j) = some z := fun j z hz => by
      have hne : C ≠ [] := fun e => by rw [e] at hz; simp [flat6] at hz
      obtain ⟨g, o, e, hcell⟩ := hu hne
      cases e
      rw [add_at]
      exact hcell j z hz
    obtain ⟨v', w', hr, h2, h3, h4⟩ := run_append_own (P := Tryz.prog) w base 28 ty 50 i0 (.agg #[.int .i64 0, .int .i64 0, .int .i64 0, .string ⟨#[]⟩, .string ⟨#[]⟩, .slice none 0 0]) 6 80 Tryz.underlying28 hi hz0 hz1 hz2 rfl (by decide) v A.length (flat6 A) hv.1 p C.length uc (flat6 C) (flat6_len C) hn (flat6_one C) (by unfold maxLen; omega) (by omega) hb
    refine ⟨v', w', hr, ⟨?_, fun d hd => kup w' h3 d ?_⟩, h3⟩
    · rw [List.length_append]
      unfold flat6 at *
      rw [List.flatMap_append]
      exact h2
    · rcases List.mem_append.1 hd with h | h
      · exact hv.2 d h
      · exact hC d h
theorem wpList_appD {ops : Array Oper} {Q : Exit → Act → World → Prop} {a : Act} {w : World} {rest : List Oper} {o : Oper} (hw : Region.wanted o (yielded ops a.tmps) = true) (x y : Operand)
    (h : o.op = .call { callee := .builtin .append, args := #[x, y], argTypes := #[28, 28] }) (base : Nat) (v : Value) (A C : List Nd) (u : Option Addr) (uc : Nat) (hx : a.eval x = v) (hy : a.eval y = .slice u C.length uc)
    (hv : OwnD w base v A) (hu : C ≠ [] → ∃ g o, u = some ⟨g, o, none⟩ ∧ ∀ j z, (flat6 C)[j]? = some z → w.cell? ⟨g, o + j, none⟩ = some z) (hC : ∀ d ∈ C, UpO w base d) (h0 : u = none → uc = 0) (hl : A.length + C.length ≤ 1000) (hb : base ≤ w.heap.size)
    (hK : ∀ v' w', OwnD w' base v' (A ++ C) → w.grownBy w' v.ownBlock → wpList Tryz.prog ops Q rest (a.put o.dst v') w') : wpList Tryz.prog ops Q (o :: rest) a w :=
  BigFrame.wpList_want hw fun K hK' => by
    obtain ⟨v', w', hr, h1, h2⟩ := appD_run w base o.type v A C u uc hv hu hC h0 hl hb
    unfold Oper.wp execOp
    simp only [h, resolve, invoke, builtin, Sem.run_bind, Sem.run_pure, Result.andThen_ok, List.map_toArray, List.map_cons, List.map_nil, hx, hy, hr]
    exact hK' _ _ (hK v' w' h1 h2)
end Go.Proofs.YtlibipbpaigmdaaGreatDoor

namespace Go.Proofs.YtlibipbpaigmdaaGreatDoor
open Go.RowKit
set_option linter.unusedVariables false

def Nd.put (d : Nd) (u : Option Addr) (c : Nat) : Nd := { d with u := u, cap := c }
theorem Nd.put_like (d : Nd) (u : Option Addr) (c : Nat) : d.Like (d.put u c) := ⟨rfl, rfl, rfl, rfl, rfl, rfl, rfl⟩
/-- node for node the same, but for where the ups lie -/
def LikeL (A B : List Nd) : Prop := A.length = B.length ∧ ∀ i, i < A.length → (gN A i).Like (gN B i)
def OkU (d : Nd) : Prop := d.n ≤ 100000 ∧ (d.u = none → d.n = 0 ∧ d.cap = 0)

theorem own_slice {w : World} {base size n : Nat} {t : TypeId} {v : Value} {xs : List Value} (h : w.ownsRow base t size v n xs) : ∃ u c, v = .slice u n c := by
  obtain ⟨h1, h2⟩ := h
  rcases h2 with ⟨rfl, rfl⟩ | ⟨g, cap, cur, rfl, _⟩
  · exact ⟨_, _, rfl⟩
  · exact ⟨_, _, rfl⟩

theorem copy_aft {w W3 w4 : World} {A B : Array Value} {n : Nat} {v4 : Value} {xs : List Value} (hB : Below w.heap.size w W3) (h0 : W3.heap[w.heap.size]? = some (.cells A 50 (0, 0))) (h1 : W3.heap[w.heap.size + 1]? = some (.cells B 50 (0, 0)))
    (ho : w4.ownsRow (w.heap.size + 2) 9 1 v4 (0 + n) xs) (hg : W3.grownBy w4 (Value.ownBlock (.slice (some ⟨w.heap.size + 1 + 1, 0, none⟩) 0 0))) :
    ∃ u q, v4 = .slice u n q ∧ w4.ownsRow (w.heap.size + 2) 9 1 (.slice u n q) n xs ∧ w4.heap[w.heap.size]? = some (.cells A 50 (0, 0)) ∧ w4.heap[w.heap.size + 1]? = some (.cells B 50 (0, 0)) ∧ Below w.heap.size w w4 := by
  rw [Nat.zero_add] at ho
  obtain ⟨u, q, e⟩ := own_slice ho
  have hg' : W3.grownBy w4 (some (w.heap.size + 1 + 1)) := hg
  refine ⟨u, q, e, by rw [← e]; exact ho, ?_, ?_, hB.grown hg' hB.size (fun j hj => by cases hj; omega)⟩
  · exact (hg'.block _ (lt_of_block h0) (by simp; omega)).trans h0
  · exact (hg'.block _ (lt_of_block h1) (by simp)).trans h1
theorem row_cells {w : World} {b : Nat} {x0 x1 x2 x3 x4 x5 : Value} {t : TypeId} (h : w.heap[b]? = some (.cells #[x0, x1, x2, x3, x4, x5] t (0, 0))) :
    w.cell? ⟨b, 0, none⟩ = some x0 ∧ w.cell? ⟨b, 1, none⟩ = some x1 ∧ w.cell? ⟨b, 2, none⟩ = some x2 ∧ w.cell? ⟨b, 3, none⟩ = some x3 ∧ w.cell? ⟨b, 4, none⟩ = some x4 ∧ w.cell? ⟨b, 5, none⟩ = some x5 :=
  ⟨cellN h, cellN h, cellN h, cellN h, cellN h, cellN h⟩
theorem row_froz {w : World} {b : Nat} {x0 x1 x2 x3 x4 x5 : Value} {t : TypeId} (h : w.heap[b]? = some (.cells #[x0, x1, x2, x3, x4, x5] t (0, 0))) :
    w.frozen? ⟨b, 0, none⟩ = false ∧ w.frozen? ⟨b, 1, none⟩ = false ∧ w.frozen? ⟨b, 2, none⟩ = false ∧ w.frozen? ⟨b, 3, none⟩ = false ∧ w.frozen? ⟨b, 4, none⟩ = false ∧ w.frozen? ⟨b, 5, none⟩ = false :=
  ⟨frozN h, frozN h, frozN h, frozN h, frozN h, frozN h⟩
theorem set_row {w : World} {b : Nat} {B : Array Value} {v : Value} {t : TypeId} (h : w.heap[b + 1]? = some (.cells B t (0, 0))) : Hid ((w.setCell ⟨b, 5, none⟩ v).heap[b + 1]? = some (.cells B t (0, 0))) := by
  show _ = _
  rw [Below.heap_setCell _ _ _ _ (by simp)]
  exact h

set_option maxHeartbeats 2000000 in
theorem copyNode_any (d : Nd) (w : World) (hI : IsStrs w d.u d.n d.cap d.S) (hn : OkU d) :
    Calls Tryz.prog 96 #[.agg #[.int .i64 d.a, .int .i64 d.s, .int .i64 d.k, .string d.key, .string d.text, .slice d.u d.n d.cap]] w fun e w' => ∃ u c, e = .returned (.agg #[.int .i64 d.a, .int .i64 d.s, .int .i64 d.k, .string d.key, .string d.text, .slice u d.n c]) ∧ UpO w' w.heap.size (d.put u c) ∧ Below w.heap.size w w' := by
  obtain ⟨a, s, k, key, text, u, n, cap, S⟩ := d
  have hI : IsStrs w u n cap S := hI
  obtain ⟨hn, h0⟩ : n ≤ 100000 ∧ (u = none → n = 0 ∧ cap = 0) := hn
  obtain ⟨W3, hW3⟩ : ∃ W3, W3 = ((w.alloc (.cells #[.int .i64 a, .int .i64 s, .int .i64 k, .string key, .string text, .slice u n cap] 50)).alloc (.cells #[.int .i64 0, .int .i64 0, .int .i64 0, .string ⟨#[]⟩, .string ⟨#[]⟩, .slice none 0 0] 50)).alloc (.cells #[] 9) := ⟨_, rfl⟩
  have s1 : (w.alloc (.cells #[.int .i64 a, .int .i64 s, .int .i64 k, .string key, .string text, .slice u n cap] 50)).heap.size = w.heap.size + 1 := by simp
  have s2 : ((w.alloc (.cells #[.int .i64 a, .int .i64 s, .int .i64 k, .string key, .string text, .slice u n cap] 50)).alloc (.cells #[.int .i64 0, .int .i64 0, .int .i64 0, .string ⟨#[]⟩, .string ⟨#[]⟩, .slice none 0 0] 50)).heap.size = w.heap.size + 1 + 1 := by simp
  have hB3 : Below w.heap.size w W3 := by rw [hW3]; exact (((Below.refl _ _).alloc (Nat.le_refl _) _).alloc (by rw [s1]; omega) _).alloc (by rw [s2]; omega) _
  have g0 : W3.heap[w.heap.size]? = some (.cells #[.int .i64 a, .int .i64 s, .int .i64 k, .string key, .string text, .slice u n cap] 50 (0, 0)) := by
    rw [hW3, Below.heap_alloc _ _ _ (by rw [s2]; omega), Below.heap_alloc _ _ _ (by rw [s1]; omega)]
    exact heap_alloc_new _ _
  have g1 : W3.heap[w.heap.size + 1]? = some (.cells #[.int .i64 0, .int .i64 0, .int .i64 0, .string ⟨#[]⟩, .string ⟨#[]⟩, .slice none 0 0] 50 (0, 0)) := by
    rw [hW3, Below.heap_alloc _ _ _ (by rw [s2]; omega), ← s1]
    exact heap_alloc_new _ _
  have g2 : W3.ownsRow (w.heap.size + 2) 9 1 (.slice (some ⟨w.heap.size + 1 + 1, 0, none⟩) 0 0) 0 [] := by
    rw [hW3, ← s2]
    exact World.ownsRow_made _ #[] 0 (by rw [s2]; omega) (by decide) rfl
  have hz3 : w.heap.size + 2 < W3.heap.size := by
    rw [hW3]
    simp
  have c0 : W3.cell? ⟨w.heap.size, 0, none⟩ = some (.int .i64 a) := cellN g0
  have c1 : W3.cell? ⟨w.heap.size, 1, none⟩ = some (.int .i64 s) := cellN g0
  have c2 : W3.cell? ⟨w.heap.size, 2, none⟩ = some (.int .i64 k) := cellN g0
  have c3 : W3.cell? ⟨w.heap.size, 3, none⟩ = some (.string key) := cellN g0
  have c4 : W3.cell? ⟨w.heap.size, 4, none⟩ = some (.string text) := cellN g0
  have c5 : W3.cell? ⟨w.heap.size, 5, none⟩ = some (.slice u n cap) := cellN g0
  have HW3 := (show Hid _ from hW3)
  have HB3 := (show Hid _ from hB3)
  have HO : Hid (W3.ownsRow (w.heap.size + 2) 9 1 (.slice (some ⟨w.heap.size + 1 + 1, 0, none⟩) 0 0) 0 []) := g2
  have HG : Hid (W3.heap[w.heap.size]? = some (.cells #[.int .i64 a, .int .i64 s, .int .i64 k, .string key, .string text, .slice u n cap] 50 (0, 0)) ∧ W3.heap[w.heap.size + 1]? = some (.cells #[.int .i64 0, .int .i64 0, .int .i64 0, .string ⟨#[]⟩, .string ⟨#[]⟩, .slice none 0 0] 50 (0, 0))) := ⟨g0, g1⟩
  have HI : Hid (IsStrs W3 u n cap S) := hI.below hB3
  have HZ : Hid (w.heap.size + 2 < W3.heap.size) := hz3
  have H0 : Hid (u = none → n = 0 ∧ cap = 0) := h0
  have HN : Hid (n ≤ 100000) := hn
  clear s1 s2 g0 g1 g2 hB3 hI hz3 h0 hn hW3
  go_enter Tryz.func96, Tryz.ntmps96
  go_wp2_with (first
    | (at_builtin
       rw [← HW3.out]
       refine wpList_appS rfl _ _ rfl (w.heap.size + 2) (.slice (some ⟨w.heap.size + 1 + 1, 0, none⟩) 0 0) 0 [] u n cap S rfl rfl HO.out HI.out H0.out (by have := HN.out; omega) (by have := HZ.out; omega) ?_
       intro v4 w4 ho4 hg4
       obtain ⟨u4, q4, rfl, ho5, g0, g1, hB4⟩ := copy_aft HB3.out HG.out.1 HG.out.2 ho4 hg4
       obtain ⟨e0, e1, e2, e3, e4, e5⟩ := row_cells g0
       obtain ⟨f0, f1, f2, f3, f4, f5⟩ := row_froz g0
       have H2 := set_row (v := .slice u4 n q4) g1
       have HO4 := (show Hid _ from ho5)
       have HB4 := (show Hid _ from hB4)
       obtain ⟨q, hq⟩ : ∃ q, q = #[Value.int .i64 a, .int .i64 s, .int .i64 k, .string key, .string text, .slice u4 n q4] := ⟨_, rfl⟩
       have hi6 : (Tryz.prog.info? 50).map (·.size) = some q.size := by rw [hq]; kernel_rfl
       have ho6 : (#[Value.int .i64 0, .int .i64 0, .int .i64 0, .string ⟨#[]⟩, .string ⟨#[]⟩, .slice none 0 0] : Array Value).size = q.size := by rw [hq]; rfl
       have h16 : q.all (·.oneCell') = true := by rw [hq]; simp [Value.oneCell']
       have HQ : Hid (q = #[Value.int .i64 a, .int .i64 s, .int .i64 k, .string key, .string text, .slice u4 n q4]) := hq
       clear g0 g1 ho4 hg4 hB4 ho5 hq)
    | (refine wpList_store_row rfl 50 _ _ rfl (w.heap.size + 1) q rfl (congrArg Value.agg HQ.out.symm) 50 _ H2.out hi6 ho6 h16 ?_))
  refine bodyPost_ret (v := .agg q) (results_cell_row rfl _ _ (w.heap.size + 1) 50 _ _ _ rfl (setRow_heap _ _ _ _ _ _ H2.out) Tryz.underlying50 rfl hi6) rfl ⟨u4, q4, ret_val (by rw [HQ.out]), ?_, ?_⟩
  · have h1 : UpO w4 (w.heap.size + 2) (Nd.put ⟨a, s, k, key, text, u, n, cap, S⟩ u4 q4) := ⟨_, HO4.out, fun i hi => by simp [show i < n from hi]; rfl⟩
    refine (h1.keep (fun j hj _ => ?_)).base (by omega)
    rw [setRow_other _ _ _ _ (by omega), Below.heap_setCell _ _ _ _ (by simp; omega)]
  · exact below_setRow (HB4.out.setCell (p := ⟨w.heap.size, 5, none⟩) (Nat.le_refl _) _) (by omega) _

theorem news_lit {w : World} {cs : Array Value} {t : TypeId} {L : List Nd} (h : cs.toList = flat6 L) : ∀ j z, (flat6 L)[j]? = some z → (w.alloc (.cells cs t)).cell? ⟨w.heap.size, 0 + j, none⟩ = some z := fun j z hz => by
  rw [cellN (heap_alloc_new w _), Nat.zero_add, ← hz, ← h]
  simp
theorem likeL_nil : LikeL [] [] := ⟨rfl, fun i hi => absurd hi (Nat.not_lt_zero _)⟩
theorem gN_app1 {A : List Nd} {d : Nd} {i : Nat} (h : i < A.length) : gN (A ++ [d]) i = gN A i := by
  unfold gN
  rw [List.getD_eq_getElem?_getD, List.getElem?_append_left h, List.getD_eq_getElem?_getD]
theorem gN_app2 {A : List Nd} {d : Nd} : gN (A ++ [d]) A.length = d := by
  unfold gN
  simp
/-- A is the first k of D, node for node -/
def LikeF (D : Nat → Nd) (k : Nat) (A : List Nd) : Prop := A.length = k ∧ ∀ i, i < k → (D i).Like (gN A i)
theorem LikeF.add {D : Nat → Nd} {k : Nat} {A : List Nd} {d : Nd} (h : LikeF D k A) (hd : (D k).Like d) : LikeF D (k + 1) (A ++ [d]) := by
  refine ⟨by rw [List.length_append, h.1]; rfl, fun i hi => ?_⟩
  rcases Nat.lt_succ_iff_lt_or_eq.1 hi with h1 | rfl
  · rw [gN_app1 (by rw [h.1]; exact h1)]
    exact h.2 i h1
  · have : gN (A ++ [d]) i = d := by
      have e := gN_app2 (A := A) (d := d)
      rw [h.1] at e
      exact e
    rw [this]
    exact hd
def OkUs (D : Nat → Nd) (len : Nat) : Prop := ∀ i, i < len → OkU (D i)

set_option maxRecDepth 10000 in
set_option maxHeartbeats 4000000 in
theorem copy_any (a : Option Addr) (len cap : Nat) (D : Nat → Nd) (w : World) (h : IsNds w a len cap D) (hu : OkUs D len) (hl : len ≤ 100) :
    Calls Tryz.prog 226 #[.slice a len cap] w fun e w' => ∃ v A, e = .returned v ∧ OwnD w' w.heap.size v A ∧ LikeF D len A ∧ v ≠ .slice none 0 0 ∧ Below w.heap.size w w' := by
  have HN : Hid (∀ w', Below w.heap.size w w' → IsNds w' a len cap D) := fun w' hB => h.below hB
  have HU := (show Hid _ from hu)
  obtain ⟨hlc, hcm, _⟩ := h
  have HO0 : Hid (OwnD (w.alloc (.cells #[] 50)) w.heap.size (.slice (some ⟨w.heap.size, 0, none⟩) 0 0) []) := ⟨World.ownsRow_made w #[] 0 (Nat.le_refl _) (by decide) rfl, fun d hd => by cases hd⟩
  have HB0 : Hid (Below w.heap.size w (w.alloc (.cells #[] 50))) := (Below.refl _ _).alloc (Nat.le_refl _) _
  clear hu
  go_enter Tryz.func226, Tryz.ntmps226
  go_wp2
  go_loopw [4, 3] (fun i u wr => ∃ (k : Nat) (A : List Nd) (v : Value), k ≤ len ∧ i = .int .i64 k ∧ v = u ∧ v ≠ .slice none 0 0 ∧ OwnD wr w.heap.size v A ∧ Hid (LikeF D k A) ∧ Below w.heap.size w wr) (fun i _ _ => len - (Go.RowKit.intOf i).toNat)
  case atStart => exact ⟨0, [], _, Nat.zero_le _, rfl, rfl, by simp, HO0.out, ⟨rfl, fun i hi => absurd hi (Nat.not_lt_zero _)⟩, HB0.out⟩
  case round =>
    obtain ⟨k, A, v, hk, rfl, rfl, hvn, hO, HL, hB⟩ := hrel
    have HO : Hid (OwnD wr w.heap.size v A) := hO
    have HB : Hid (Below w.heap.size w wr) := hB
    have HV : Hid (v ≠ .slice none 0 0) := hvn
    clear hO hvn
    by_cases hlt : k < len
    · have hltI : (k : Int) < (len : Int) := by omega
      obtain ⟨b, off, rfl, hbs, hcell⟩ := (HN.out wr hB).2.2 (by omega)
      obtain ⟨c0, c1, c2, c3, c4, c5, ci⟩ := hcell k hlt
      have HC : Hid (Calls Tryz.prog 96 #[.agg #[.int .i64 (D k).a, .int .i64 (D k).s, .int .i64 (D k).k, .string (D k).key, .string (D k).text, .slice (D k).u (D k).n (D k).cap]] wr fun e w' => ∃ u c, e = .returned (.agg #[.int .i64 (D k).a, .int .i64 (D k).s, .int .i64 (D k).k, .string (D k).key, .string (D k).text, .slice u (D k).n c]) ∧ UpO w' wr.heap.size ((D k).put u c) ∧ Below wr.heap.size wr w') := copyNode_any (D k) wr ci (HU.out k hlt)
      have HK : Hid (A.length = k ∧ k ≤ 100) := ⟨HL.out.1, by omega⟩
      clear ci hcell hB
      go_wp2_with (first
        | (go_at_call 96
           refine HC.out.mono ?_
           rintro e w2 ⟨u2, q2, rfl, hU2, hB2⟩
           have HU2 : Hid (UpO w2 wr.heap.size ((D k).put u2 q2)) := hU2
           have HB2 := (show Hid _ from hB2)
           have HO2 : Hid (OwnD w2 w.heap.size v A) := HO.out.below hB2
           have HBw2 : Hid (Below w.heap.size w w2) := HB.out.trans (hB2.mono HB.out.size)
           clear hU2 hB2)
        | (at_builtin
           go_loud (refine wpList_appD rfl _ _ rfl w.heap.size v A [(D k).put u2 q2] (some ⟨w2.heap.size, 0, none⟩) 1 rfl rfl (HO2.out.below ((Below.refl _ _).alloc (Nat.le_refl _) _)) (fun _ => ⟨w2.heap.size, 0, rfl, news_lit rfl⟩) (fun d hd => by rw [List.mem_singleton.1 hd]; exact (HU2.out.base HB.out.size).keep (fun j _ hj => by obtain ⟨cs, hj⟩ := hj; exact Below.heap_alloc _ _ _ (lt_of_block hj))) (fun h => by cases h) (by have := HK.out; simp; omega) (by have := HBw2.out.size; simp; omega) ?_)
           intro v3 w3 hO3 hG3))
      have HB3 : Hid (Below w.heap.size w w3) := (HBw2.out.alloc HBw2.out.size _).grown hG3 (by have := HBw2.out.size; simp; omega) (fun x hx => (World.ownsRow.lt HO2.out.1 x hx).1)
      have HO3 : Hid (OwnD w3 w.heap.size v3 (A ++ [(D k).put u2 q2])) := hO3
      have HL3 : Hid (LikeF D (k + 1) (A ++ [(D k).put u2 q2])) := HL.out.add ((D k).put_like u2 q2)
      have HV3 : Hid (v3 ≠ .slice none 0 0) := fun e => by
        have h1 := hO3.1
        rw [e] at h1
        rcases h1.2 with ⟨_, h2⟩ | ⟨g, c, cur, h2, _⟩
        · simp at h2
        · cases h2
      clear hO3 hG3
      go_roundw
      case rel => exact ⟨k + 1, _, _, by omega, by go_num, rfl, HV3.out, HO3.out, HL3.out, HB3.out⟩
      case measure => simp [Go.RowKit.intOf]; omega
    · have hke : k = len := by omega
      subst hke
      clear hB
      go_wp2
      go_ret
      exact ⟨v, A, rfl, HO.out, HL.out, HV.out, HB.out⟩
end Go.Proofs.YtlibipbpaigmdaaGreatDoor

namespace Go.Proofs.YtlibipbpaigmdaaGreatDoor
open Go.RowKit
set_option linter.unusedVariables false

theorem OwnD.src {w : World} {base : Nat} {v : Value} {L : List Nd} (h : OwnD w base v L) : ∃ u c, v = .slice u L.length c ∧ (L ≠ [] → ∃ g o, u = some ⟨g, o, none⟩ ∧ ∀ j z, (flat6 L)[j]? = some z → w.cell? ⟨g, o + j, none⟩ = some z) ∧ (u = none → c = 0) := by
  obtain ⟨ho, _⟩ := h
  rcases ho.2 with ⟨rfl, h2⟩ | ⟨g, cap, cur, rfl, hb, hh, hnc, hcm, r⟩
  · refine ⟨none, 0, by rw [h2], fun hne => ?_, fun _ => rfl⟩
    exact absurd (List.eq_nil_of_length_eq_zero h2) hne
  · refine ⟨some ⟨g, 0, none⟩, cap, rfl, fun _ => ⟨g, 0, rfl, fun j z hz => ?_⟩, fun h => by cases h⟩
    have hj : j < (flat6 L).length := (List.getElem?_eq_some_iff.1 hz).1
    rw [Nat.zero_add, ← hz]
    exact World.ownsRow.cellAt ho j (by rw [flat6_len] at hj; omega)

/-- D with x at place k -/
def insD (D : Nat → Nd) (k : Nat) (x : Nd) : Nat → Nd := fun i => if i < k then D i else if i = k then x else D (i - 1)
theorem LikeF.ins {D : Nat → Nd} {k len : Nat} {x x' : Nd} {A B : List Nd} (hk : k ≤ len) (hA : LikeF D k A) (hx : x.Like x') (hB : LikeF (fun i => D (k + i)) (len - k) B) : LikeF (insD D k x) (len + 1) (A ++ [x'] ++ B) := by
  refine ⟨by rw [List.length_append, List.length_append, hA.1, hB.1]; simp; omega, fun i hi => ?_⟩
  unfold insD
  have hAl := hA.1
  have hBl := hB.1
  rcases Nat.lt_trichotomy i k with h | h | h
  · rw [if_pos h]
    have e : gN (A ++ [x'] ++ B) i = gN A i := by
      unfold gN
      rw [List.append_assoc, List.getD_eq_getElem?_getD, List.getElem?_append_left (by omega), List.getD_eq_getElem?_getD]
    rw [e]
    exact hA.2 i h
  · rw [if_neg (by omega), if_pos h]
    have e : gN (A ++ [x'] ++ B) i = x' := by
      unfold gN
      rw [List.getD_eq_getElem?_getD, List.getElem?_append_left (by simp; omega), List.getElem?_append_right (by omega)]
      simp [show i - A.length = 0 by omega]
    rw [e]
    exact hx
  · rw [if_neg (by omega), if_neg (by omega)]
    have e : gN (A ++ [x'] ++ B) i = gN B (i - k - 1) := by
      unfold gN
      rw [List.getD_eq_getElem?_getD, List.getElem?_append_right (by simp; omega), List.getD_eq_getElem?_getD]
      have : i - (A ++ [x']).length = i - k - 1 := by simp; omega
      rw [this]
    rw [e]
    have := hB.2 (i - k - 1) (by omega)
    simp only at this
    rw [show k + (i - k - 1) = i - 1 by omega] at this
    exact this

/-- a node whose texts have lengths -/
def FineN (x : Nd) : Prop := x.key.size ≤ 9223372036854775807 ∧ x.text.size ≤ 9223372036854775807 ∧ ∀ j, j < x.n → (x.S j).size ≤ 9223372036854775807

def PutP (D : Nat → Nd) (len : Nat) (x : Nd) (A : List Nd) : Prop :=
  (LikeF D len A ∧ outB (ids D) len x.id = false) ∨ ∃ k, k ≤ len ∧ LikeF (insD D k x) (len + 1) A ∧ (∀ i, i < k → Op.bytesLess (ids D i).toList x.id.toList = true) ∧ (k < len → Op.bytesLess (ids D k).toList x.id.toList = false ∧ (ids D k).toList ≠ x.id.toList)

theorem nds_tail {w : World} {b off len cap k : Nat} {D : Nat → Nd} (h : IsNds w (some ⟨b, off, none⟩) len cap D) (hk : k ≤ len) : IsNds w (some ⟨b, off + k * 6, none⟩) (len - k) (cap - k) (fun i => D (k + i)) := by
  obtain ⟨h1, h2, h3⟩ := h
  refine ⟨by omega, by omega, fun hp => ?_⟩
  obtain ⟨b', o', e, hb, hc⟩ := h3 (by omega)
  simp only [Option.some.injEq, Addr.mk.injEq, and_true] at e
  obtain ⟨rfl, rfl⟩ := e
  refine ⟨b, off + k * 6, rfl, hb, fun i hi => ?_⟩
  have := hc (k + i) (by omega)
  rw [show off + (k + i) * 6 = off + k * 6 + i * 6 by omega] at this
  exact this
theorem nds_none {w : World} {a : Option Addr} {c : Nat} {D : Nat → Nd} (hc : c ≤ 9223372036854775807) : IsNds w a 0 c D := ⟨Nat.zero_le _, hc, fun h => absurd h (Nat.lt_irrefl _)⟩
theorem nds_head {w : World} {a : Option Addr} {len cap k : Nat} {D : Nat → Nd} (h : IsNds w a len cap D) (hk : k ≤ len) : IsNds w a k cap D := by
  obtain ⟨h1, h2, h3⟩ := h
  refine ⟨by omega, h2, fun hp => ?_⟩
  obtain ⟨b', o', e, hb, hc⟩ := h3 (by omega)
  exact ⟨b', o', e, hb, fun i hi => hc i (by omega)⟩

set_option maxRecDepth 10000 in
set_option maxHeartbeats 8000000 in
theorem l6Put_any (b off len cap : Nat) (D : Nat → Nd) (x : Nd) (w : World) (h : IsNds w (some ⟨b, off, none⟩) len cap D) (hf : Fine D len) (hu : OkUs D len) (hl : len ≤ 30) (hx : IsStrs w x.u x.n x.cap x.S) (hxo : OkU x) (hxf : FineN x) :
    Calls Tryz.prog 190 #[.slice (some ⟨b, off, none⟩) len cap, .agg #[.int .i64 x.a, .int .i64 x.s, .int .i64 x.k, .string x.key, .string x.text, .slice x.u x.n x.cap]] w fun e w' => ∃ v A, e = .returned v ∧ OwnD w' w.heap.size v A ∧ PutP D len x A ∧ v ≠ .slice none 0 0 ∧ Below w.heap.size w w' := by
  have HN : Hid (∀ w', Below w.heap.size w w' → IsNds w' (some ⟨b, off, none⟩) len cap D) := fun w' hB => h.below hB
  have HF : Hid (Fine D len) := hf
  have HU : Hid (OkUs D len) := hu
  have HLE : Hid (len ≤ 30) := hl
  obtain ⟨w1, hw1⟩ : ∃ w1, w1 = w.alloc (.cells #[.int .i64 x.a, .int .i64 x.s, .int .i64 x.k, .string x.key, .string x.text, .slice x.u x.n x.cap] 50) := ⟨_, rfl⟩
  have hB1 : Below w.heap.size w w1 := by rw [hw1]; exact (Below.refl _ _).alloc (Nat.le_refl _) _
  have g1 : w1.heap[w.heap.size]? = some (.cells #[.int .i64 x.a, .int .i64 x.s, .int .i64 x.k, .string x.key, .string x.text, .slice x.u x.n x.cap] 50 (0, 0)) := by rw [hw1]; exact heap_alloc_new _ _
  have HG : Hid (∀ w', Below w1.heap.size w1 w' → w'.heap[w.heap.size]? = some (.cells #[.int .i64 x.a, .int .i64 x.s, .int .i64 x.k, .string x.key, .string x.text, .slice x.u x.n x.cap] 50 (0, 0))) := fun w' hB => (hB.block _ (lt_of_block g1)).trans g1
  have HX : Hid (∀ w', Below w1.heap.size w1 w' → IsStrs w' x.u x.n x.cap x.S) := fun w' hB => hx.below (hB1.trans (hB.mono hB1.size))
  have HXO : Hid (OkU x) := hxo
  have HI : Hid (Calls Tryz.prog 58 #[.agg #[.int .i64 x.a, .int .i64 x.s, .int .i64 x.k, .string x.key, .string x.text, .slice x.u x.n x.cap]] w1 fun e w' => e = .returned (.string x.id) ∧ Below w1.heap.size w1 w') := specIdOf_any _ _ _ _ _ _ _ _ x.S w1 (HX.out w1 (Below.refl _ _)) hxf.2.2 hxf.1 hxf.2.1
  have HB1 : Hid (Below w.heap.size w w1) := hB1
  have HW1 := (show Hid _ from hw1)
  obtain ⟨hlc, hcm, _⟩ := h
  obtain ⟨c0, c1, c2, c3, c4, c5⟩ := row_cells g1
  clear hf hu hl hx hxo hxf hB1 g1 hw1
  go_enter Tryz.func190, Tryz.ntmps190
  go_wp2_with (first
    | (go_at_call 58
       rw [← HW1.out]
       refine HI.out.mono ?_
       rintro e w2 ⟨rfl, hB2⟩
       have HB2 : Hid (Below w1.heap.size w1 w2) := hB2
       have HA : Hid (Calls Tryz.prog 84 #[.slice (some ⟨b, off, none⟩) len cap] w2 fun e w' => ∃ g gc, e = .returned (.slice g len gc) ∧ IsStrs w' g len gc (fun i => (D i).id) ∧ Below w2.heap.size w2 w') := l6All_any _ len cap D w2 (HN.out w2 (HB1.out.trans (hB2.mono HB1.out.size))) HF.out HLE.out
       clear hB2)
    | (go_at_call 84
       refine HA.out.mono ?_
       rintro e w3 ⟨g, gc, rfl, hI3, hB3⟩
       have HB3 : Hid (Below w1.heap.size w1 w3) := HB2.out.trans (hB3.mono HB2.out.size)
       have HI3 : Hid (IsStrs w3 g len gc (ids D)) := hI3
       clear hI3 hB3))
  obtain ⟨hglc, hgcm, hgc⟩ := HI3.out
  obtain ⟨id, hid⟩ : ∃ id, id = x.id := ⟨_, rfl⟩
  rw [← hid]
  have HID := (show Hid _ from hid)
  clear hid
  go_loop [7] (fun i => ∃ (k : Nat), k ≤ len ∧ i = .int .i64 k ∧ Hid (∀ j, j < k → Op.bytesLess (ids D j).toList id.toList = true)) (fun i => len - (Go.RowKit.intOf i).toNat)
  case atStart => exact ⟨0, Nat.zero_le _, rfl, fun j hj => absurd hj (Nat.not_lt_zero _)⟩
  case round =>
    obtain ⟨k, hk, rfl, HR⟩ := hrel
    have hgo : (k < len ∧ Op.bytesLess (ids D k).toList id.toList = true) ∨ (k < len ∧ Op.bytesLess (ids D k).toList id.toList = false ∧ ((ids D k).toList == id.toList) = true) ∨ (k ≤ len ∧ (k < len → Op.bytesLess (ids D k).toList id.toList = false ∧ ((ids D k).toList == id.toList) = false)) := by
      by_cases hlt : k < len
      · cases h1 : Op.bytesLess (ids D k).toList id.toList with
        | true => exact .inl ⟨hlt, rfl⟩
        | false =>
          cases h2 : ((ids D k).toList == id.toList) with
          | true => exact .inr (.inl ⟨hlt, rfl, rfl⟩)
          | false => exact .inr (.inr ⟨hk, fun _ => ⟨rfl, rfl⟩⟩)
      · exact .inr (.inr ⟨hk, fun h => absurd h hlt⟩)
    rcases hgo with ⟨hlt, h1⟩ | ⟨hlt, h1, h2⟩ | ⟨_, h12⟩
    · have hltI : (k : Int) < (len : Int) := by omega
      obtain ⟨gb, goff, rfl, hgs, hgcell⟩ := hgc (by omega)
      have d1 := hgcell k hlt
      have HR' : Hid (∀ j, j < k + 1 → Op.bytesLess (ids D j).toList id.toList = true) := by
        intro j hj
        rcases Nat.lt_succ_iff_lt_or_eq.1 hj with h | rfl
        · exact HR.out j h
        · exact h1
      clear hgcell hgc
      go_wp2
      go_round
      case rel => exact ⟨k + 1, by omega, by go_num, HR'⟩
      case measure => simp [Go.RowKit.intOf]; omega
    · have hltI : (k : Int) < (len : Int) := by omega
      obtain ⟨gb, goff, rfl, hgs, hgcell⟩ := hgc (by omega)
      have d1 := hgcell k hlt
      have HOUT : Hid (outB (ids D) len x.id = false) := (outB_iff (ids D) _ len).2 ⟨k, hlt, by rw [← HID.out]; exact eq_of_beq h2⟩
      clear hgcell hgc
      have HCP : Hid (Calls Tryz.prog 226 #[.slice (some ⟨b, off, none⟩) len cap] w3 fun e w' => ∃ v A, e = .returned v ∧ OwnD w' w3.heap.size v A ∧ LikeF D len A ∧ v ≠ .slice none 0 0 ∧ Below w3.heap.size w3 w') := copy_any _ len cap D w3 (HN.out w3 (HB1.out.trans (HB3.out.mono HB1.out.size))) HU.out (by have := HLE.out; omega)
      go_wp2_with fail
      refine HCP.out.mono ?_
      rintro e w4 ⟨v4, A, rfl, hO4, hL4, hv4, hB4⟩
      have HF4 : Hid (OwnD w4 w3.heap.size v4 A ∧ LikeF D len A ∧ v4 ≠ .slice none 0 0 ∧ Below w3.heap.size w3 w4) := ⟨hO4, hL4, hv4, hB4⟩
      clear hO4 hL4 hv4 hB4
      go_wp2
      go_ret
      have P1 : OwnD w4 w.heap.size v4 A := HF4.out.1.base (Nat.le_trans HB1.out.size HB3.out.size)
      have P2 : PutP D len x A := Or.inl ⟨HF4.out.2.1, HOUT.out⟩
      have P3 : v4 ≠ .slice none 0 0 := HF4.out.2.2.1
      have P4 : Below w.heap.size w w4 := HB1.out.trans ((HB3.out.trans (HF4.out.2.2.2.mono HB3.out.size)).mono HB1.out.size)
      exact ⟨v4, A, rfl, P1, P2, P3, P4⟩
    · have HPK : Hid (k ≤ len ∧ (∀ i, i < k → Op.bytesLess (ids D i).toList x.id.toList = true) ∧ (k < len → Op.bytesLess (ids D k).toList x.id.toList = false ∧ (ids D k).toList ≠ x.id.toList)) := by
        rw [← HID.out]
        refine ⟨hk, HR.out, fun h => ⟨(h12 h).1, fun e => ?_⟩⟩
        have := (h12 h).2
        rw [e] at this
        simp at this
      have hkc : k ≤ cap := by omega
      have HB3w : Hid (Below w.heap.size w w3) := HB1.out.trans (HB3.out.mono HB1.out.size)
      have HC1 : Hid (Calls Tryz.prog 226 #[.slice (some ⟨b, off, none⟩) k cap] w3 fun e w' => ∃ v A, e = .returned v ∧ OwnD w' w3.heap.size v A ∧ LikeF D k A ∧ v ≠ .slice none 0 0 ∧ Below w3.heap.size w3 w') := copy_any _ k cap D w3 (nds_head (HN.out w3 HB3w.out) hk) (fun i hi => HU.out i (by omega)) (by have := HLE.out; omega)
      have HC2 : Hid (∀ w', Below w3.heap.size w3 w' → ∀ a n c, n = len - k → (k < len → a = some ⟨b, off + k * 6, none⟩ ∧ c = cap - k) → c ≤ 9223372036854775807 → Calls Tryz.prog 226 #[.slice a n c] w' fun e w'' => ∃ v A, e = .returned v ∧ OwnD w'' w'.heap.size v A ∧ LikeF (fun i => D (k + i)) n A ∧ v ≠ .slice none 0 0 ∧ Below w'.heap.size w' w'') := fun w' hB a n c hn hac hc => by
        refine copy_any a n c (fun i => D (k + i)) w' ?_ (fun i hi => HU.out (k + i) (by omega)) (by have := HLE.out; omega)
        by_cases hlt : k < len
        · obtain ⟨rfl, rfl⟩ := hac hlt
          rw [hn]
          exact nds_tail (HN.out w' (HB3w.out.trans (hB.mono HB3w.out.size))) hk
        · rw [hn, show len - k = 0 by omega]
          exact nds_none hc
      have HCN : Hid (∀ w', Below w3.heap.size w3 w' → Calls Tryz.prog 96 #[.agg #[.int .i64 x.a, .int .i64 x.s, .int .i64 x.k, .string x.key, .string x.text, .slice x.u x.n x.cap]] w' fun e w'' => ∃ u c, e = .returned (.agg #[.int .i64 x.a, .int .i64 x.s, .int .i64 x.k, .string x.key, .string x.text, .slice u x.n c]) ∧ UpO w'' w'.heap.size (x.put u c) ∧ Below w'.heap.size w' w'') := fun w' hB => copyNode_any x w' (HX.out w' (HB3.out.trans (hB.mono HB3.out.size))) HXO.out
      have hkl : (k < len ∧ ((k : Int) < (len : Int)) ∧ Op.bytesLess (ids D k).toList id.toList = false ∧ ((ids D k).toList == id.toList) = false) ∨ ¬ k < len := by
        by_cases hlt : k < len
        · exact .inl ⟨hlt, by omega, (h12 hlt).1, (h12 hlt).2⟩
        · exact .inr hlt
      have HCK : Hid (k ≤ len ∧ len ≤ cap ∧ cap ≤ 9223372036854775807 ∧ len ≤ 30) := ⟨hk, hlc, hcm, HLE.out⟩
      clear h12
      by_cases hcap : cap = k
      all_goals rcases hkl with ⟨hlt, hltI, h1, h2⟩ | hlt
      · omega
      · have hke : k = len := by omega
        subst hke
        subst hcap
        go_wp2_with fail
        refine HC1.out.mono ?_
        rintro e w4 ⟨v4, A1, rfl, hO4, hL4, hv4, hB4⟩
        have HO4 : Hid (OwnD w4 w3.heap.size v4 A1) := hO4
        have HL4 : Hid (LikeF D cap A1) := hL4
        have HB4 : Hid (Below w3.heap.size w3 w4) := hB4
        obtain ⟨e0, e1, e2, e3, e4, e5⟩ := row_cells (HG.out w4 (HB3.out.trans (hB4.mono HB3.out.size)))
        have HC4 := HCN.out w4 hB4
        have HC4 : Hid (Calls Tryz.prog 96 #[.agg #[.int .i64 x.a, .int .i64 x.s, .int .i64 x.k, .string x.key, .string x.text, .slice x.u x.n x.cap]] w4 fun e w'' => ∃ u c, e = .returned (.agg #[.int .i64 x.a, .int .i64 x.s, .int .i64 x.k, .string x.key, .string x.text, .slice u x.n c]) ∧ UpO w'' w4.heap.size (x.put u c) ∧ Below w4.heap.size w4 w'') := HC4
        clear hO4 hL4 hB4 hv4 HC1
        go_wp2_with fail
        refine HC4.out.mono ?_
        rintro e w5 ⟨u5, q5, rfl, hU5, hB5⟩
        have HU5 : Hid (UpO w5 w4.heap.size (x.put u5 q5)) := hU5
        have HB5 : Hid (Below w3.heap.size w3 w5) := HB4.out.trans (hB5.mono HB4.out.size)
        have HO5 : Hid (OwnD w5 w3.heap.size v4 A1) := HO4.out.below hB5
        obtain ⟨y, hy⟩ : ∃ y, y = x.put u5 q5 := ⟨_, rfl⟩
        have HY : Hid (y = x.put u5 q5) := hy
        have HSZ5 : Hid (w3.heap.size ≤ (w5.alloc (.cells #[.int .i64 x.a, .int .i64 x.s, .int .i64 x.k, .string x.key, .string x.text, .slice u5 x.n q5] 50)).heap.size) := by show _ ≤ _; have := HB5.out.size; simp; omega
        have HL51 : Hid (A1.length + [y].length ≤ 1000) := by show _ ≤ _; have := HL4.out.1; have := HCK.out; simp; omega
        have HO5x : Hid (OwnD (w5.alloc (.cells #[.int .i64 x.a, .int .i64 x.s, .int .i64 x.k, .string x.key, .string x.text, .slice u5 x.n q5] 50)) w3.heap.size v4 A1) := HO5.out.below ((Below.refl _ _).alloc (Nat.le_refl _) _)
        have HSR5 : Hid ([y] ≠ [] → ∃ g o, (some ⟨w5.heap.size, 0, none⟩ : Option Addr) = some ⟨g, o, none⟩ ∧ ∀ j z, (flat6 [y])[j]? = some z → (w5.alloc (.cells #[.int .i64 x.a, .int .i64 x.s, .int .i64 x.k, .string x.key, .string x.text, .slice u5 x.n q5] 50)).cell? ⟨g, o + j, none⟩ = some z) := fun _ => ⟨w5.heap.size, 0, rfl, by rw [hy]; exact news_lit rfl⟩
        have HUP5 : Hid (∀ d ∈ [y], UpO (w5.alloc (.cells #[.int .i64 x.a, .int .i64 x.s, .int .i64 x.k, .string x.key, .string x.text, .slice u5 x.n q5] 50)) w3.heap.size d) := fun d hd => by
          rw [List.mem_singleton.1 hd, hy]
          exact (HU5.out.base HB4.out.size).keep (fun j _ hj => by obtain ⟨cs, hj⟩ := hj; exact Below.heap_alloc _ _ _ (lt_of_block hj))
        clear hU5 hB5 hy
        go_wp2_with (at_builtin; refine wpList_appD rfl _ _ rfl w3.heap.size v4 A1 [y] (some ⟨w5.heap.size, 0, none⟩) 1 rfl rfl HO5x.out HSR5.out HUP5.out (fun h => by cases h) HL51.out HSZ5.out ?_; intro v6 w6 hO6 hG6)
        have HB6 : Hid (Below w3.heap.size w3 w6) := (HB5.out.alloc HB5.out.size _).grown hG6 HSZ5.out (fun j hj => (World.ownsRow.lt HO5.out.1 j hj).1)
        have HO6 : Hid (OwnD w6 w3.heap.size v6 (A1 ++ [y])) := hO6
        clear hO6 hG6
        go_wp2_with fail
        refine (HC2.out w6 HB6.out _ _ _ (by omega) (fun h => by first | exact ⟨rfl, rfl⟩ | exact absurd h (by omega)) (by have := HCK.out; omega)).mono ?_
        rintro e w7 ⟨v7, A2, rfl, hO7, hL7, hv7, hB7⟩
        have HO7 : Hid (OwnD w7 w6.heap.size v7 A2) := hO7
        have HB7 : Hid (Below w3.heap.size w3 w7) := HB6.out.trans (hB7.mono HB6.out.size)
        have HO67 : Hid (OwnD w7 w3.heap.size v6 (A1 ++ [y])) := HO6.out.below hB7
        have HS67 : Hid (w3.heap.size ≤ w6.heap.size) := HB6.out.size
        obtain ⟨u7, c7, hv7e, hsrc, hnil⟩ := hO7.src
        have HSRC : Hid ((A2 ≠ [] → ∃ g o, u7 = some ⟨g, o, none⟩ ∧ ∀ j z, (flat6 A2)[j]? = some z → w7.cell? ⟨g, o + j, none⟩ = some z) ∧ (u7 = none → c7 = 0)) := ⟨hsrc, hnil⟩
        have HL7 : Hid (LikeF (fun i => D (cap + i)) (cap - cap) A2) := by
          show LikeF _ _ _
          first | exact hL7 | (rw [show cap - cap = 0 by omega]; exact hL7)
        have HLL7 : Hid ((A1 ++ [y]).length + A2.length ≤ 1000) := by
          show _ ≤ _
          have h1 := HL7.out.1
          have h2 := HL51.out
          have h3 := HCK.out
          rw [List.length_append]
          have h4 := HL4.out.1
          simp only [List.length_singleton] at *
          omega
        subst hv7e
        clear hO7 hL7 hv7 hB7 hsrc hnil
        go_wp2_with (at_builtin; refine wpList_appD rfl _ _ rfl w3.heap.size v6 (A1 ++ [y]) A2 u7 c7 rfl rfl HO67.out HSRC.out.1 (fun d hd => (HO7.out.2 d hd).base HS67.out) HSRC.out.2 HLL7.out HB7.out.size ?_; intro v8 w8 hO8 hG8)
        have HO8 : Hid (OwnD w8 w3.heap.size v8 (A1 ++ [y] ++ A2)) := hO8
        have HB8 : Hid (Below w3.heap.size w3 w8) := HB7.out.grown hG8 HB7.out.size (fun j hj => (World.ownsRow.lt HO67.out.1 j hj).1)
        clear hO8 hG8
        go_wp2
        go_ret
        have P1 : OwnD w8 w.heap.size v8 (A1 ++ [y] ++ A2) := HO8.out.base HB3w.out.size
        have P2 : PutP D cap x (A1 ++ [y] ++ A2) := Or.inr ⟨cap, HPK.out.1, LikeF.ins HPK.out.1 HL4.out (by rw [HY.out]; exact x.put_like u5 q5) HL7.out, HPK.out.2.1, HPK.out.2.2⟩
        have P3 : v8 ≠ .slice none 0 0 := fun e => by
          have h1 := HO8.out.1
          rw [e] at h1
          rcases h1.2 with ⟨_, h2⟩ | ⟨g, c, cur, h2, _⟩
          · simp at h2
          · cases h2
        have P4 : Below w.heap.size w w8 := HB3w.out.trans (HB8.out.mono HB3w.out.size)
        exact ⟨v8, _, rfl, P1, P2, P3, P4⟩
      · obtain ⟨gb, goff, rfl, hgs, hgcell⟩ := hgc (by omega)
        have d1 := hgcell k hlt
        clear hgcell hgc
        go_wp2_with fail
        refine HC1.out.mono ?_
        rintro e w4 ⟨v4, A1, rfl, hO4, hL4, hv4, hB4⟩
        have HO4 : Hid (OwnD w4 w3.heap.size v4 A1) := hO4
        have HL4 : Hid (LikeF D k A1) := hL4
        have HB4 : Hid (Below w3.heap.size w3 w4) := hB4
        obtain ⟨e0, e1, e2, e3, e4, e5⟩ := row_cells (HG.out w4 (HB3.out.trans (hB4.mono HB3.out.size)))
        have HC4 := HCN.out w4 hB4
        have HC4 : Hid (Calls Tryz.prog 96 #[.agg #[.int .i64 x.a, .int .i64 x.s, .int .i64 x.k, .string x.key, .string x.text, .slice x.u x.n x.cap]] w4 fun e w'' => ∃ u c, e = .returned (.agg #[.int .i64 x.a, .int .i64 x.s, .int .i64 x.k, .string x.key, .string x.text, .slice u x.n c]) ∧ UpO w'' w4.heap.size (x.put u c) ∧ Below w4.heap.size w4 w'') := HC4
        clear hO4 hL4 hB4 hv4 HC1
        go_wp2_with fail
        refine HC4.out.mono ?_
        rintro e w5 ⟨u5, q5, rfl, hU5, hB5⟩
        have HU5 : Hid (UpO w5 w4.heap.size (x.put u5 q5)) := hU5
        have HB5 : Hid (Below w3.heap.size w3 w5) := HB4.out.trans (hB5.mono HB4.out.size)
        have HO5 : Hid (OwnD w5 w3.heap.size v4 A1) := HO4.out.below hB5
        obtain ⟨y, hy⟩ : ∃ y, y = x.put u5 q5 := ⟨_, rfl⟩
        have HY : Hid (y = x.put u5 q5) := hy
        have HSZ5 : Hid (w3.heap.size ≤ (w5.alloc (.cells #[.int .i64 x.a, .int .i64 x.s, .int .i64 x.k, .string x.key, .string x.text, .slice u5 x.n q5] 50)).heap.size) := by show _ ≤ _; have := HB5.out.size; simp; omega
        have HL51 : Hid (A1.length + [y].length ≤ 1000) := by show _ ≤ _; have := HL4.out.1; have := HCK.out; simp; omega
        have HO5x : Hid (OwnD (w5.alloc (.cells #[.int .i64 x.a, .int .i64 x.s, .int .i64 x.k, .string x.key, .string x.text, .slice u5 x.n q5] 50)) w3.heap.size v4 A1) := HO5.out.below ((Below.refl _ _).alloc (Nat.le_refl _) _)
        have HSR5 : Hid ([y] ≠ [] → ∃ g o, (some ⟨w5.heap.size, 0, none⟩ : Option Addr) = some ⟨g, o, none⟩ ∧ ∀ j z, (flat6 [y])[j]? = some z → (w5.alloc (.cells #[.int .i64 x.a, .int .i64 x.s, .int .i64 x.k, .string x.key, .string x.text, .slice u5 x.n q5] 50)).cell? ⟨g, o + j, none⟩ = some z) := fun _ => ⟨w5.heap.size, 0, rfl, by rw [hy]; exact news_lit rfl⟩
        have HUP5 : Hid (∀ d ∈ [y], UpO (w5.alloc (.cells #[.int .i64 x.a, .int .i64 x.s, .int .i64 x.k, .string x.key, .string x.text, .slice u5 x.n q5] 50)) w3.heap.size d) := fun d hd => by
          rw [List.mem_singleton.1 hd, hy]
          exact (HU5.out.base HB4.out.size).keep (fun j _ hj => by obtain ⟨cs, hj⟩ := hj; exact Below.heap_alloc _ _ _ (lt_of_block hj))
        clear hU5 hB5 hy
        go_wp2_with (at_builtin; refine wpList_appD rfl _ _ rfl w3.heap.size v4 A1 [y] (some ⟨w5.heap.size, 0, none⟩) 1 rfl rfl HO5x.out HSR5.out HUP5.out (fun h => by cases h) HL51.out HSZ5.out ?_; intro v6 w6 hO6 hG6)
        have HB6 : Hid (Below w3.heap.size w3 w6) := (HB5.out.alloc HB5.out.size _).grown hG6 HSZ5.out (fun j hj => (World.ownsRow.lt HO5.out.1 j hj).1)
        have HO6 : Hid (OwnD w6 w3.heap.size v6 (A1 ++ [y])) := hO6
        clear hO6 hG6
        go_wp2_with fail
        refine (HC2.out w6 HB6.out _ _ _ (by omega) (fun h => by first | exact ⟨rfl, rfl⟩ | exact absurd h (by omega)) (by have := HCK.out; omega)).mono ?_
        rintro e w7 ⟨v7, A2, rfl, hO7, hL7, hv7, hB7⟩
        have HO7 : Hid (OwnD w7 w6.heap.size v7 A2) := hO7
        have HB7 : Hid (Below w3.heap.size w3 w7) := HB6.out.trans (hB7.mono HB6.out.size)
        have HO67 : Hid (OwnD w7 w3.heap.size v6 (A1 ++ [y])) := HO6.out.below hB7
        have HS67 : Hid (w3.heap.size ≤ w6.heap.size) := HB6.out.size
        obtain ⟨u7, c7, hv7e, hsrc, hnil⟩ := hO7.src
        have HSRC : Hid ((A2 ≠ [] → ∃ g o, u7 = some ⟨g, o, none⟩ ∧ ∀ j z, (flat6 A2)[j]? = some z → w7.cell? ⟨g, o + j, none⟩ = some z) ∧ (u7 = none → c7 = 0)) := ⟨hsrc, hnil⟩
        have HL7 : Hid (LikeF (fun i => D (k + i)) (len - k) A2) := by
          show LikeF _ _ _
          first | exact hL7 | (rw [show len - k = 0 by omega]; exact hL7)
        have HLL7 : Hid ((A1 ++ [y]).length + A2.length ≤ 1000) := by
          show _ ≤ _
          have h1 := HL7.out.1
          have h2 := HL51.out
          have h3 := HCK.out
          rw [List.length_append]
          have h4 := HL4.out.1
          simp only [List.length_singleton] at *
          omega
        subst hv7e
        clear hO7 hL7 hv7 hB7 hsrc hnil
        go_wp2_with (at_builtin; refine wpList_appD rfl _ _ rfl w3.heap.size v6 (A1 ++ [y]) A2 u7 c7 rfl rfl HO67.out HSRC.out.1 (fun d hd => (HO7.out.2 d hd).base HS67.out) HSRC.out.2 HLL7.out HB7.out.size ?_; intro v8 w8 hO8 hG8)
        have HO8 : Hid (OwnD w8 w3.heap.size v8 (A1 ++ [y] ++ A2)) := hO8
        have HB8 : Hid (Below w3.heap.size w3 w8) := HB7.out.grown hG8 HB7.out.size (fun j hj => (World.ownsRow.lt HO67.out.1 j hj).1)
        clear hO8 hG8
        go_wp2
        go_ret
        have P1 : OwnD w8 w.heap.size v8 (A1 ++ [y] ++ A2) := HO8.out.base HB3w.out.size
        have P2 : PutP D len x (A1 ++ [y] ++ A2) := Or.inr ⟨k, HPK.out.1, LikeF.ins HPK.out.1 HL4.out (by rw [HY.out]; exact x.put_like u5 q5) HL7.out, HPK.out.2.1, HPK.out.2.2⟩
        have P3 : v8 ≠ .slice none 0 0 := fun e => by
          have h1 := HO8.out.1
          rw [e] at h1
          rcases h1.2 with ⟨_, h2⟩ | ⟨g, c, cur, h2, _⟩
          · simp at h2
          · cases h2
        have P4 : Below w.heap.size w w8 := HB3w.out.trans (HB8.out.mono HB3w.out.size)
        exact ⟨v8, _, rfl, P1, P2, P3, P4⟩
      · have hke : k = len := by omega
        subst hke
        go_wp2_with fail
        refine HC1.out.mono ?_
        rintro e w4 ⟨v4, A1, rfl, hO4, hL4, hv4, hB4⟩
        have HO4 : Hid (OwnD w4 w3.heap.size v4 A1) := hO4
        have HL4 : Hid (LikeF D k A1) := hL4
        have HB4 : Hid (Below w3.heap.size w3 w4) := hB4
        obtain ⟨e0, e1, e2, e3, e4, e5⟩ := row_cells (HG.out w4 (HB3.out.trans (hB4.mono HB3.out.size)))
        have HC4 := HCN.out w4 hB4
        have HC4 : Hid (Calls Tryz.prog 96 #[.agg #[.int .i64 x.a, .int .i64 x.s, .int .i64 x.k, .string x.key, .string x.text, .slice x.u x.n x.cap]] w4 fun e w'' => ∃ u c, e = .returned (.agg #[.int .i64 x.a, .int .i64 x.s, .int .i64 x.k, .string x.key, .string x.text, .slice u x.n c]) ∧ UpO w'' w4.heap.size (x.put u c) ∧ Below w4.heap.size w4 w'') := HC4
        clear hO4 hL4 hB4 hv4 HC1
        go_wp2_with fail
        refine HC4.out.mono ?_
        rintro e w5 ⟨u5, q5, rfl, hU5, hB5⟩
        have HU5 : Hid (UpO w5 w4.heap.size (x.put u5 q5)) := hU5
        have HB5 : Hid (Below w3.heap.size w3 w5) := HB4.out.trans (hB5.mono HB4.out.size)
        have HO5 : Hid (OwnD w5 w3.heap.size v4 A1) := HO4.out.below hB5
        obtain ⟨y, hy⟩ : ∃ y, y = x.put u5 q5 := ⟨_, rfl⟩
        have HY : Hid (y = x.put u5 q5) := hy
        have HSZ5 : Hid (w3.heap.size ≤ (w5.alloc (.cells #[.int .i64 x.a, .int .i64 x.s, .int .i64 x.k, .string x.key, .string x.text, .slice u5 x.n q5] 50)).heap.size) := by show _ ≤ _; have := HB5.out.size; simp; omega
        have HL51 : Hid (A1.length + [y].length ≤ 1000) := by show _ ≤ _; have := HL4.out.1; have := HCK.out; simp; omega
        have HO5x : Hid (OwnD (w5.alloc (.cells #[.int .i64 x.a, .int .i64 x.s, .int .i64 x.k, .string x.key, .string x.text, .slice u5 x.n q5] 50)) w3.heap.size v4 A1) := HO5.out.below ((Below.refl _ _).alloc (Nat.le_refl _) _)
        have HSR5 : Hid ([y] ≠ [] → ∃ g o, (some ⟨w5.heap.size, 0, none⟩ : Option Addr) = some ⟨g, o, none⟩ ∧ ∀ j z, (flat6 [y])[j]? = some z → (w5.alloc (.cells #[.int .i64 x.a, .int .i64 x.s, .int .i64 x.k, .string x.key, .string x.text, .slice u5 x.n q5] 50)).cell? ⟨g, o + j, none⟩ = some z) := fun _ => ⟨w5.heap.size, 0, rfl, by rw [hy]; exact news_lit rfl⟩
        have HUP5 : Hid (∀ d ∈ [y], UpO (w5.alloc (.cells #[.int .i64 x.a, .int .i64 x.s, .int .i64 x.k, .string x.key, .string x.text, .slice u5 x.n q5] 50)) w3.heap.size d) := fun d hd => by
          rw [List.mem_singleton.1 hd, hy]
          exact (HU5.out.base HB4.out.size).keep (fun j _ hj => by obtain ⟨cs, hj⟩ := hj; exact Below.heap_alloc _ _ _ (lt_of_block hj))
        clear hU5 hB5 hy
        go_wp2_with (at_builtin; refine wpList_appD rfl _ _ rfl w3.heap.size v4 A1 [y] (some ⟨w5.heap.size, 0, none⟩) 1 rfl rfl HO5x.out HSR5.out HUP5.out (fun h => by cases h) HL51.out HSZ5.out ?_; intro v6 w6 hO6 hG6)
        have HB6 : Hid (Below w3.heap.size w3 w6) := (HB5.out.alloc HB5.out.size _).grown hG6 HSZ5.out (fun j hj => (World.ownsRow.lt HO5.out.1 j hj).1)
        have HO6 : Hid (OwnD w6 w3.heap.size v6 (A1 ++ [y])) := hO6
        clear hO6 hG6
        go_wp2_with fail
        refine (HC2.out w6 HB6.out _ _ _ (by omega) (fun h => by first | exact ⟨rfl, rfl⟩ | exact absurd h (by omega)) (by have := HCK.out; omega)).mono ?_
        rintro e w7 ⟨v7, A2, rfl, hO7, hL7, hv7, hB7⟩
        have HO7 : Hid (OwnD w7 w6.heap.size v7 A2) := hO7
        have HB7 : Hid (Below w3.heap.size w3 w7) := HB6.out.trans (hB7.mono HB6.out.size)
        have HO67 : Hid (OwnD w7 w3.heap.size v6 (A1 ++ [y])) := HO6.out.below hB7
        have HS67 : Hid (w3.heap.size ≤ w6.heap.size) := HB6.out.size
        obtain ⟨u7, c7, hv7e, hsrc, hnil⟩ := hO7.src
        have HSRC : Hid ((A2 ≠ [] → ∃ g o, u7 = some ⟨g, o, none⟩ ∧ ∀ j z, (flat6 A2)[j]? = some z → w7.cell? ⟨g, o + j, none⟩ = some z) ∧ (u7 = none → c7 = 0)) := ⟨hsrc, hnil⟩
        have HL7 : Hid (LikeF (fun i => D (k + i)) (k - k) A2) := by
          show LikeF _ _ _
          first | exact hL7 | (rw [show k - k = 0 by omega]; exact hL7)
        have HLL7 : Hid ((A1 ++ [y]).length + A2.length ≤ 1000) := by
          show _ ≤ _
          have h1 := HL7.out.1
          have h2 := HL51.out
          have h3 := HCK.out
          rw [List.length_append]
          have h4 := HL4.out.1
          simp only [List.length_singleton] at *
          omega
        subst hv7e
        clear hO7 hL7 hv7 hB7 hsrc hnil
        go_wp2_with (at_builtin; refine wpList_appD rfl _ _ rfl w3.heap.size v6 (A1 ++ [y]) A2 u7 c7 rfl rfl HO67.out HSRC.out.1 (fun d hd => (HO7.out.2 d hd).base HS67.out) HSRC.out.2 HLL7.out HB7.out.size ?_; intro v8 w8 hO8 hG8)
        have HO8 : Hid (OwnD w8 w3.heap.size v8 (A1 ++ [y] ++ A2)) := hO8
        have HB8 : Hid (Below w3.heap.size w3 w8) := HB7.out.grown hG8 HB7.out.size (fun j hj => (World.ownsRow.lt HO67.out.1 j hj).1)
        clear hO8 hG8
        go_wp2
        go_ret
        have P1 : OwnD w8 w.heap.size v8 (A1 ++ [y] ++ A2) := HO8.out.base HB3w.out.size
        have P2 : PutP D k x (A1 ++ [y] ++ A2) := Or.inr ⟨k, HPK.out.1, LikeF.ins HPK.out.1 HL4.out (by rw [HY.out]; exact x.put_like u5 q5) HL7.out, HPK.out.2.1, HPK.out.2.2⟩
        have P3 : v8 ≠ .slice none 0 0 := fun e => by
          have h1 := HO8.out.1
          rw [e] at h1
          rcases h1.2 with ⟨_, h2⟩ | ⟨g, c, cur, h2, _⟩
          · simp at h2
          · cases h2
        have P4 : Below w.heap.size w w8 := HB3w.out.trans (HB8.out.mono HB3w.out.size)
        exact ⟨v8, _, rfl, P1, P2, P3, P4⟩
end Go.Proofs.YtlibipbpaigmdaaGreatDoor

namespace Go.Proofs.YtlibipbpaigmdaaGreatDoor
open Go.RowKit
set_option linter.unusedVariables false

/-- a slice of bytes that reads as the numbers Z 0, Z 1, .. in world w -/
def IsU8 (w : World) (a : Option Addr) (len cap : Nat) (Z : Nat → Int) : Prop :=
  len ≤ cap ∧ cap ≤ 9223372036854775807 ∧ (∀ i, 0 ≤ Z i ∧ Z i ≤ 255) ∧ (0 < len → ∃ b off, a = some ⟨b, off, none⟩ ∧ b < w.heap.size ∧ ∀ i, i < len → w.cell? ⟨b, off + i, none⟩ = some (.int .u8 (Z i)))

/-- all blocks of w but R lie in w' as they lay -/
structure Mut (R : Nat) (w w' : World) : Prop where
  os : w'.os = w.os
  tape : w'.tape = w.tape
  output : w'.output = w.output
  size : w.heap.size ≤ w'.heap.size
  block : ∀ k, k < w.heap.size → k ≠ R → w'.heap[k]? = w.heap[k]?

theorem Mut.refl (R : Nat) (w : World) : Mut R w w := ⟨rfl, rfl, rfl, Nat.le_refl _, fun _ _ _ => rfl⟩
theorem Mut.trans {R : Nat} {a b c : World} (h : Mut R a b) (k : Mut R b c) : Mut R a c :=
  ⟨k.os.trans h.os, k.tape.trans h.tape, k.output.trans h.output, Nat.le_trans h.size k.size, fun i hi hr => (k.block i (Nat.lt_of_lt_of_le hi h.size) hr).trans (h.block i hi hr)⟩
theorem Mut.setCell {R : Nat} {a w : World} (h : Mut R a w) (o : Nat) (u : Value) : Mut R a (w.setCell ⟨R, o, none⟩ u) :=
  h.trans ⟨rfl, rfl, rfl, by simp [World.setCell], fun k _ hr => Below.heap_setCell _ _ _ _ hr⟩
theorem Mut.alloc {R : Nat} {a w : World} (h : Mut R a w) (o : Obj) : Mut R a (w.alloc o) :=
  h.trans ⟨rfl, rfl, rfl, by simp, fun k hk _ => Below.heap_alloc _ _ _ hk⟩
theorem Mut.drewN {R : Nat} {a w : World} (h : Mut R a w) (n : Nat) : Mut R a (w.drewN n) := h.trans ⟨rfl, rfl, rfl, Nat.le_refl _, fun _ _ _ => rfl⟩

/-- w is behind W; block R, new since W, holds a reader of the code -/
structure Draw (W : World) (a : Option Addr) (len cap R : Nat) (w : World) : Prop where
  bel : Below W.heap.size W w
  new : W.heap.size ≤ R
  box : ∃ p : Nat, p ≤ len ∧ w.heap[R]? = some (.cells #[.slice a len cap, .int .i64 p] 160 (0, 0))

theorem Draw.alloc {W : World} {a : Option Addr} {len cap R : Nat} {w : World} (h : Draw W a len cap R w) (o : Obj) : Draw W a len cap R (w.alloc o) := by
  obtain ⟨p, hp, hb⟩ := h.box
  exact ⟨h.bel.alloc (Nat.le_trans h.new (Nat.le_of_lt (lt_of_block hb))) o, h.new, p, hp, by rw [Below.heap_alloc _ _ _ (lt_of_block hb)]; exact hb⟩

theorem Draw.below {W : World} {a : Option Addr} {len cap R : Nat} {w w' : World} (h : Draw W a len cap R w) (hB : Below w.heap.size w w') : Draw W a len cap R w' := by
  obtain ⟨p, hp, hb⟩ := h.box
  exact ⟨h.bel.trans (hB.mono h.bel.size), h.new, p, hp, (hB.block _ (lt_of_block hb)).trans hb⟩
theorem Mut.of_below {R : Nat} {w w' : World} (h : Below w.heap.size w w') : Mut R w w' := ⟨h.os, h.tape, h.output, h.size, fun k hk _ => h.block k hk⟩
theorem Draw.drewN {W : World} {a : Option Addr} {len cap R : Nat} {w : World} (h : Draw W a len cap R w) (n : Nat) : Draw W a len cap R (w.drewN n) :=
  ⟨h.bel.trans ⟨rfl, rfl, rfl, Nat.le_refl _, fun _ _ => rfl⟩, h.new, h.box⟩

theorem big_any (a : Option Addr) (len cap : Nat) (w : World) : Calls Tryz.prog 34 #[.slice a len cap] w fun e w' => e = .returned (.bool (decide ((1048576 : Int) < (len : Int)))) ∧ w' = w := by
  go_enter Tryz.func34, Tryz.ntmps34
  go_wp2
  go_ret
  exact ⟨rfl, rfl⟩

theorem open_any (a : Option Addr) (len cap : Nat) (w : World) : Calls Tryz.prog 103 #[.slice a len cap] w fun e w' => e = .returned (.pointer (some ⟨w.heap.size, 0, none⟩)) ∧ Draw w a len cap w.heap.size w' := by
  go_enter Tryz.func103, Tryz.ntmps103
  go_wp2
  go_ret
  exact ⟨rfl, (Below.refl _ _).alloc (Nat.le_refl _) _, Nat.le_refl _, 0, Nat.zero_le _, heap_alloc_new w _⟩

section
variable {W : World} {a : Option Addr} {len cap R : Nat} {Z : Nat → Int}

set_option maxHeartbeats 400000 in
theorem next_any (hU : IsU8 W a len cap Z) (w : World) (h : Draw W a len cap R w) :
    Calls Tryz.prog 162 #[.pointer (some ⟨R, 0, none⟩)] w fun e w' => ∃ x : Int, 0 ≤ x ∧ x ≤ 255 ∧ e = .returned (.int .i64 x) ∧ Draw W a len cap R w' ∧ Mut R w w' := by
  obtain ⟨hlc, hcm, hrg, hc⟩ := hU
  obtain ⟨p, hp, hb⟩ := h.box
  have c0 : w.cell? ⟨R, 0, none⟩ = some (.slice a len cap) := by simp [World.cell?, hb]
  have c1 : w.cell? ⟨R, 1, none⟩ = some (.int .i64 p) := by simp [World.cell?, hb]
  have f1 : w.frozen? ⟨R, 1, none⟩ = false := by simp [World.frozen?, hb]
  have H : Hid (Draw W a len cap R w) := h
  have HB : Hid (w.heap[R]? = some (.cells #[.slice a len cap, .int .i64 p] 160 (0, 0))) := hb
  clear h hb
  by_cases hlt : p < len
  · have hge : decide ((len : Int) ≤ (p : Int)) = false := by simp; omega
    have hltI : (p : Int) < (len : Int) := by omega
    obtain ⟨b, off, rfl, hbs, hcell⟩ := hc (by omega)
    have hck : w.cell? ⟨b, off + p, none⟩ = some (.int .u8 (Z p)) := (H.out.bel.cell (p := ⟨b, off + p, none⟩) hbs).trans (hcell p hlt)
    have hRb : Hid (R ≠ b) := by
      show _ ≠ _
      have := H.out.new
      omega
    have hck' : ∀ nq, ((w.drewN nq).setCell ⟨R, 1, none⟩ (.int .i64 ((p : Int) + 1))).cell? ⟨b, off + p, none⟩ = some (.int .u8 (Z p)) := by
      intro nq
      rw [← hck]
      exact World.cell?_of_block (Below.heap_setCell _ _ _ _ (fun e => hRb.out e.symm))
    have hb' : Hid ((w.setCell ⟨R, 1, none⟩ (.int .i64 ((p : Int) + 1))).heap[R]? = some (.cells #[.slice (some ⟨b, off, none⟩) len cap, .int .i64 ((p + 1 : Nat) : Int)] 160 (0, 0))) := by
      show _ = _
      rw [heap_setCell_same w R 1 _ 160 _ HB.out]
      rfl
    have HD : Hid (∀ nq n, Draw W (some ⟨b, off, none⟩) len cap R (((w.drewN nq).setCell ⟨R, 1, none⟩ (.int .i64 ((p : Int) + 1))).drewN n)) := fun nq n =>
      Draw.drewN ⟨(H.out.drewN nq).bel.setCell (p := ⟨R, 1, none⟩) H.out.new _, H.out.new, p + 1, hlt, hb'.out⟩ n
    have hz := hrg p
    have hwp : IntKind.i64.wrap (p : Int) = (p : Int) := by rw [IntKind.wrap_i64]; omega
    clear hcell hc
    go_enter Tryz.func162, Tryz.ntmps162
    go_wp2
    go_quiet (fail)
    go_wp2
    go_quiet (fail)
    go_wp2
    go_ret
    exact ⟨Z p, hz.1, hz.2, rfl, HD.out _ _, (((Mut.refl R w).drewN _).setCell 1 _).drewN _⟩
  · have hge : decide ((len : Int) ≤ (p : Int)) = true := by simp; omega
    go_enter Tryz.func162, Tryz.ntmps162
    go_wp2
    go_quiet (fail)
    go_wp2
    go_ret
    exact ⟨0, by omega, by omega, rfl, H.out.drewN _, (Mut.refl R w).drewN _⟩

theorem below_any (hU : IsU8 W a len cap Z) (n : Int) (hn : 2 ≤ n) (hn2 : n ≤ 256) (w : World) (h : Draw W a len cap R w) :
    Calls Tryz.prog 111 #[.pointer (some ⟨R, 0, none⟩), .int .i64 n] w fun e w' => ∃ x : Int, 0 ≤ x ∧ x < n ∧ e = .returned (.int .i64 x) ∧ Draw W a len cap R w' ∧ Mut R w w' := by
  have h1 : ¬ n ≤ 1 := by omega
  have h0 : ¬ n = 0 := by omega
  go_enter Tryz.func111, Tryz.ntmps111
  go_wp2_with (go_at_call 162; refine (next_any hU _ h).mono ?_; rintro e w' ⟨x, hx0, hx1, rfl, hD, hM⟩)
  go_ret
  refine ⟨x % n, Int.emod_nonneg _ (by omega), Int.emod_lt_of_pos _ (by omega), rfl, hD, hM⟩

theorem once_any (hU : IsU8 W a len cap Z) (n : Int) (hn : 2 ≤ n) (hn2 : n ≤ 256) (w : World) (h : Draw W a len cap R w) :
    Calls Tryz.prog 116 #[.pointer (some ⟨R, 0, none⟩), .int .i64 n] w fun e w' => ∃ x : Bool, e = .returned (.bool x) ∧ Draw W a len cap R w' ∧ Mut R w w' := by
  go_enter Tryz.func116, Tryz.ntmps116
  go_wp2_with (go_at_call 111; refine (below_any hU n hn hn2 _ h).mono ?_; rintro e w' ⟨x, hx0, hx1, rfl, hD, hM⟩)
  go_ret
  exact ⟨_, rfl, hD, hM⟩

set_option maxHeartbeats 400000 in
theorem word_any (hU : IsU8 W a len cap Z) (w : World) (h : Draw W a len cap R w) :
    Calls Tryz.prog 227 #[.pointer (some ⟨R, 0, none⟩)] w fun e w' => ∃ x : Int, e = .returned (.int .u64 x) ∧ Draw W a len cap R w' ∧ Mut R w w' := by
  go_enter Tryz.func227, Tryz.ntmps227
  go_wp2
  go_loopw [3, 4] (fun x i wr => ∃ (z : Int) (k : Nat), k ≤ 8 ∧ x = .int .u64 z ∧ i = .int .i64 k ∧ Draw W a len cap R wr ∧ Mut R w wr) (fun _ i _ => 8 - (intOf i).toNat)
  case atStart => exact ⟨0, 0, by omega, rfl, rfl, h, Mut.refl _ _⟩
  case round =>
    obtain ⟨z, k, hk, rfl, rfl, hD, hM⟩ := hrel
    by_cases hlt : k < 8
    · have hltI : (k : Int) < 8 := by omega
      go_wp2_with (go_at_call 162; refine (next_any hU _ hD).mono ?_; rintro e w' ⟨x, hx0, hx1, rfl, hD', hM'⟩)
      exact ⟨⟨_, k + 1, by omega, rfl, by go_num, hD', hM.trans hM'⟩, by simp [intOf]; omega⟩
    · have hltI : ¬ (k : Int) < 8 := by omega
      go_wp2
      go_ret
      exact ⟨⟨z, rfl⟩, hD, hM⟩

theorem Draw.lt {w : World} (h : Draw W a len cap R w) : R < w.heap.size := by
  obtain ⟨p, hp, hb⟩ := h.box
  exact lt_of_block hb

/-- a literal's own block behind a draw -/
theorem lit_cells {w w' : World} {cs : Array Value} {t : TypeId} (hM : Mut R (w.alloc (.cells cs t)) w') (hR : R < w.heap.size) (i : Nat) : w'.cell? ⟨w.heap.size, i, none⟩ = cs[i]? := by
  have hb : w'.heap[w.heap.size]? = some (.cells cs t (0, 0)) := (hM.block w.heap.size (by simp) (by omega)).trans (heap_alloc_new w _)
  simp [World.cell?, hb]

theorem wrap64_range (z : Int) : -9223372036854775808 ≤ wrap64 z ∧ wrap64 z ≤ 9223372036854775807 := by unfold wrap64; omega

set_option maxHeartbeats 400000 in
theorem near19_any (hU : IsU8 W a len cap Z) (w : World) (h : Draw W a len cap R w) :
    Calls Tryz.prog 191 #[.pointer (some ⟨R, 0, none⟩), .int .i64 1, .int .i64 9] w fun e w' => ∃ x : Int, -9223372036854775808 ≤ x ∧ x ≤ 9223372036854775807 ∧ e = .returned (.int .i64 x) ∧ Draw W a len cap R w' ∧ Mut R w w' := by
  go_enter Tryz.func191, Tryz.ntmps191
  go_wp2_with (first
    | (go_at_call 111; refine (below_any hU 8 (by omega) (by omega) _ h).mono ?_; rintro e w' ⟨x, hx0, hx1, rfl, hD, hM⟩)
    | (go_at_call 227; refine (word_any hU _ hD).mono ?_; rintro e w2 ⟨z, rfl, hD', hM'⟩))
  · go_ret
    exact ⟨_, by omega, by omega, rfl, hD, hM⟩
  · go_ret
    exact ⟨_, by omega, by omega, rfl, hD, hM⟩
  · go_ret
    exact ⟨_, (wrap64_range _).1, (wrap64_range _).2, rfl, hD', hM.trans hM'⟩

set_option maxHeartbeats 400000 in
theorem off19_any (hU : IsU8 W a len cap Z) (w : World) (h : Draw W a len cap R w) :
    Calls Tryz.prog 159 #[.pointer (some ⟨R, 0, none⟩), .int .i64 1, .int .i64 9] w fun e w' => ∃ x : Int, -9223372036854775808 ≤ x ∧ x ≤ 9223372036854775807 ∧ e = .returned (.int .i64 x) ∧ Draw W a len cap R w' ∧ Mut R w w' := by
  go_enter Tryz.func159, Tryz.ntmps159
  go_wp2_with (first
    | (go_at_call 116; refine (once_any hU 24 (by omega) (by omega) _ h).mono ?_; rintro e w' ⟨x, rfl, hD, hM⟩)
    | (go_at_call 191; refine (near19_any hU _ hD).mono ?_; rintro e w2 ⟨z, hz0, hz1, rfl, hD', hM'⟩))
  · refine (below_any hU 4 (by omega) (by omega) _ (hD.alloc _)).mono ?_
    rintro e w3 ⟨y, hy0, hy1, rfl, hD3, hM3⟩
    have hc := lit_cells hM3 hD.lt
    have c0 := hc 0
    have c1 := hc 1
    have c2 := hc 2
    have c3 := hc 3
    clear hc
    have hM4 : Hid (Mut R w w3) := (hM.alloc _).trans hM3
    clear hM3
    have hy : y = 0 ∨ y = 1 ∨ y = 2 ∨ y = 3 := by omega
    rcases hy with rfl | rfl | rfl | rfl <;> (go_wp2; go_ret; exact ⟨_, by omega, by omega, rfl, hD3, hM4.out⟩)
  · go_ret
    exact ⟨_, by omega, by omega, rfl, hD', hM.trans hM'⟩
set_option maxHeartbeats 400000 in
theorem near1m_any (hU : IsU8 W a len cap Z) (w : World) (h : Draw W a len cap R w) :
    Calls Tryz.prog 191 #[.pointer (some ⟨R, 0, none⟩), .int .i64 1, .int .i64 1000000] w fun e w' => ∃ x : Int, -9223372036854775808 ≤ x ∧ x ≤ 9223372036854775807 ∧ e = .returned (.int .i64 x) ∧ Draw W a len cap R w' ∧ Mut R w w' := by
  go_enter Tryz.func191, Tryz.ntmps191
  go_wp2_with (first
    | (go_at_call 111; refine (below_any hU 8 (by omega) (by omega) _ h).mono ?_; rintro e w' ⟨x, hx0, hx1, rfl, hD, hM⟩)
    | (go_at_call 227; refine (word_any hU _ hD).mono ?_; rintro e w2 ⟨z, rfl, hD', hM'⟩))
  · go_ret
    exact ⟨_, by omega, by omega, rfl, hD, hM⟩
  · go_ret
    exact ⟨_, by omega, by omega, rfl, hD, hM⟩
  · go_ret
    exact ⟨_, (wrap64_range _).1, (wrap64_range _).2, rfl, hD', hM.trans hM'⟩

set_option maxHeartbeats 400000 in
theorem off1m_any (hU : IsU8 W a len cap Z) (w : World) (h : Draw W a len cap R w) :
    Calls Tryz.prog 159 #[.pointer (some ⟨R, 0, none⟩), .int .i64 1, .int .i64 1000000] w fun e w' => ∃ x : Int, -9223372036854775808 ≤ x ∧ x ≤ 9223372036854775807 ∧ e = .returned (.int .i64 x) ∧ Draw W a len cap R w' ∧ Mut R w w' := by
  go_enter Tryz.func159, Tryz.ntmps159
  go_wp2_with (first
    | (go_at_call 116; refine (once_any hU 24 (by omega) (by omega) _ h).mono ?_; rintro e w' ⟨x, rfl, hD, hM⟩)
    | (go_at_call 191; refine (near1m_any hU _ hD).mono ?_; rintro e w2 ⟨z, hz0, hz1, rfl, hD', hM'⟩))
  · refine (below_any hU 4 (by omega) (by omega) _ (hD.alloc _)).mono ?_
    rintro e w3 ⟨y, hy0, hy1, rfl, hD3, hM3⟩
    have hc := lit_cells hM3 hD.lt
    have c0 := hc 0
    have c1 := hc 1
    have c2 := hc 2
    have c3 := hc 3
    clear hc
    have hM4 : Hid (Mut R w w3) := (hM.alloc _).trans hM3
    clear hM3
    have hy : y = 0 ∨ y = 1 ∨ y = 2 ∨ y = 3 := by omega
    rcases hy with rfl | rfl | rfl | rfl <;> (go_wp2; go_ret; exact ⟨_, by omega, by omega, rfl, hD3, hM4.out⟩)
  · go_ret
    exact ⟨_, by omega, by omega, rfl, hD', hM.trans hM'⟩
theorem below1_any (w : World) (h : Draw W a len cap R w) :
    Calls Tryz.prog 111 #[.pointer (some ⟨R, 0, none⟩), .int .i64 1] w fun e w' => e = .returned (.int .i64 0) ∧ w' = w := by
  go_enter Tryz.func111, Tryz.ntmps111
  go_wp2
  go_ret
  exact ⟨rfl, rfl⟩
theorem belowN_any (hU : IsU8 W a len cap Z) (n : Nat) (hn : 1 ≤ n) (hn2 : n ≤ 256) (w : World) (h : Draw W a len cap R w) :
    Calls Tryz.prog 111 #[.pointer (some ⟨R, 0, none⟩), .int .i64 (n : Int)] w fun e w' => ∃ y : Nat, y < n ∧ e = .returned (.int .i64 (y : Int)) ∧ Draw W a len cap R w' ∧ Mut R w w' := by
  by_cases h1 : n = 1
  · subst h1
    refine (below1_any w h).mono ?_
    rintro e w' ⟨rfl, rfl⟩
    exact ⟨0, by omega, rfl, h, Mut.refl _ _⟩
  · refine (below_any hU (n : Int) (by omega) (by omega) w h).mono ?_
    rintro e w' ⟨y, h0, h2, rfl, hD, hM⟩
    exact ⟨y.toNat, by omega, by rw [Int.toNat_of_nonneg h0], hD, hM⟩

set_option maxHeartbeats 1000000 in
theorem text_any (hU : IsU8 W a len cap Z) (w : World) (h : Draw W a len cap R w) :
    Calls Tryz.prog 168 #[.pointer (some ⟨R, 0, none⟩)] w fun e w' => ∃ t : ByteArray, t.size ≤ 3 ∧ e = .returned (.string t) ∧ Draw W a len cap R w' ∧ Mut R w w' := by
  go_enter Tryz.func168, Tryz.ntmps168
  have HM0 : Hid (∀ o, Mut R w (w.alloc o)) := fun o => (Mut.refl R w).alloc o
  have HR : Hid (R < w.heap.size) := h.lt
  go_wp2_with fail
  refine (below_any hU 6 (by omega) (by omega) _ (h.alloc _)).mono ?_
  rintro e w3 ⟨y, hy0, hy1, rfl, hD3, hM3⟩
  have hc := lit_cells hM3 HR.out
  have c0 := hc 0
  have c1 := hc 1
  have c2 := hc 2
  have c3 := hc 3
  have c4 := hc 4
  have c5 := hc 5
  clear hc
  have hM4 : Hid (Mut R w w3) := (HM0.out _).trans hM3
  clear hM3 HM0
  have hy : y = 0 ∨ y = 1 ∨ y = 2 ∨ y = 3 ∨ y = 4 ∨ y = 5 := by omega
  rcases hy with rfl | rfl | rfl | rfl | rfl | rfl <;> (go_wp2; go_ret; exact ⟨_, by decide, rfl, hD3, hM4.out⟩)
end
end Go.Proofs.YtlibipbpaigmdaaGreatDoor
