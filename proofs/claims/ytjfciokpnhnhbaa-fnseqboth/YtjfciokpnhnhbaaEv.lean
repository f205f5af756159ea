/-
  Elements of four cells in slices: how they read, copies of them, holding two of them against each other. No condition but that the slices read.
-/
import Derived.Test.YtjfciokpnhnhbaaBase
import Derived.Laws.CopyOwn
namespace Go.Proofs.Ytjfciokpnhnhbaa
open Go.RowKit
set_option linter.unusedVariables false

theorem ret_val {a b : Value} (h : a = b) : Ending.returned a = .returned b := by rw [h]
theorem cellN {w : World} {b i : Nat} {cs : Array Value} {t : TypeId} (h : w.heap[b]? = some (.cells cs t (0, 0))) : w.cell? ⟨b, i, none⟩ = cs[i]? := by simp [World.cell?, h]
theorem frozN {w : World} {b i : Nat} {cs : Array Value} {t : TypeId} (h : w.heap[b]? = some (.cells cs t (0, 0))) : w.frozen? ⟨b, i, none⟩ = false := by simp [World.frozen?, h]

/-- an element as plain data -/
structure Ev where
  a : Int
  b : Int
  c : Int
  d : ByteArray

/-- the element x lies at place o of block b -/
structure EvAt (w : World) (b o : Nat) (x : Ev) : Prop where
  c0 : w.cell? ⟨b, o, none⟩ = some (.int .i64 x.a)
  c1 : w.cell? ⟨b, o + 1, none⟩ = some (.int .i64 x.b)
  c2 : w.cell? ⟨b, o + 2, none⟩ = some (.int .i64 x.c)
  c3 : w.cell? ⟨b, o + 3, none⟩ = some (.string x.d)
theorem EvAt.below {w w' : World} {b o : Nat} {x : Ev} (h : EvAt w b o x) (hB : Below w.heap.size w w') : EvAt w' b o x :=
  ⟨(hB.cell (p := ⟨b, o, none⟩) (cell_lt h.c0)).trans h.c0, (hB.cell (p := ⟨b, o + 1, none⟩) (cell_lt h.c0)).trans h.c1, (hB.cell (p := ⟨b, o + 2, none⟩) (cell_lt h.c0)).trans h.c2, (hB.cell (p := ⟨b, o + 3, none⟩) (cell_lt h.c0)).trans h.c3⟩
theorem EvAt.grow {n : Nat} {w w' : World} {b o : Nat} {x : Ev} (h : EvAt w b o x) (hb : b < n) (hB : Below n w w') : EvAt w' b o x :=
  ⟨(hB.cell (p := ⟨b, o, none⟩) hb).trans h.c0, (hB.cell (p := ⟨b, o + 1, none⟩) hb).trans h.c1, (hB.cell (p := ⟨b, o + 2, none⟩) hb).trans h.c2, (hB.cell (p := ⟨b, o + 3, none⟩) hb).trans h.c3⟩

/-- a slice of elements that reads as D 0, D 1, .. -/
def IsEvs (w : World) (a : Option Addr) (len cap : Nat) (D : Nat → Ev) : Prop :=
  len ≤ cap ∧ cap ≤ 9223372036854775807 ∧ (0 < len → ∃ b off, a = some ⟨b, off, none⟩ ∧ b < w.heap.size ∧ ∀ i, i < len → EvAt w b (off + i * 4) (D i))
theorem IsEvs.below {w w' : World} {a : Option Addr} {len cap : Nat} {D : Nat → Ev} (h : IsEvs w a len cap D) (hB : Below w.heap.size w w') : IsEvs w' a len cap D := by
  obtain ⟨h1, h2, h3⟩ := h
  refine ⟨h1, h2, fun hp => ?_⟩
  obtain ⟨b, off, e, hb, hc⟩ := h3 hp
  exact ⟨b, off, e, by have := hB.size; omega, fun i hi => (hc i hi).below hB⟩

theorem infoE : (Try.prog.info? 36).map (fun i => (i.zero, i.size, i.bytes)) = some (some (.agg #[.int .i64 0, .int .i64 0, .int .i64 0, .string ⟨#[]⟩]), 4, 40) := by kernel_rfl

theorem infoE4 : (Try.prog.info? 36).map (·.size) = some 4 := by kernel_rfl

/-- the four cells of element j are laid in xs -/
def Laid4 (xs : List Value) (D : Nat → Ev) (j : Nat) : Prop :=
  xs[j * 4]? = some (.int .i64 (D j).a) ∧ xs[j * 4 + 1]? = some (.int .i64 (D j).b) ∧ xs[j * 4 + 2]? = some (.int .i64 (D j).c) ∧ xs[j * 4 + 3]? = some (.string (D j).d)

theorem get_set4 (xs : List Value) (k j t : Nat) (v0 v1 v2 v3 : Value) (hj : j < k) (ht : t < 4) :
    ((((xs.set (k * 4) v0).set (k * 4 + 1) v1).set (k * 4 + 2) v2).set (k * 4 + 3) v3)[j * 4 + t]? = xs[j * 4 + t]? := by
  rw [List.getElem?_set_ne (by omega), List.getElem?_set_ne (by omega), List.getElem?_set_ne (by omega), List.getElem?_set_ne (by omega)]
theorem Laid4.set {xs : List Value} {D : Nat → Ev} {k j : Nat} {v0 v1 v2 v3 : Value} (h : Laid4 xs D j) (hj : j < k) : Laid4 ((((xs.set (k * 4) v0).set (k * 4 + 1) v1).set (k * 4 + 2) v2).set (k * 4 + 3) v3) D j :=
  ⟨(get_set4 xs k j 0 _ _ _ _ hj (by omega)).trans h.1, (get_set4 xs k j 1 _ _ _ _ hj (by omega)).trans h.2.1, (get_set4 xs k j 2 _ _ _ _ hj (by omega)).trans h.2.2.1, (get_set4 xs k j 3 _ _ _ _ hj (by omega)).trans h.2.2.2⟩
theorem Laid4.new {xs : List Value} {D : Nat → Ev} {k : Nat} (h : k * 4 + 3 < xs.length) : Laid4 ((((xs.set (k * 4) (.int .i64 (D k).a)).set (k * 4 + 1) (.int .i64 (D k).b)).set (k * 4 + 2) (.int .i64 (D k).c)).set (k * 4 + 3) (.string (D k).d)) D k := by
  refine ⟨?_, ?_, ?_, ?_⟩
  · rw [List.getElem?_set_ne (by omega), List.getElem?_set_ne (by omega), List.getElem?_set_ne (by omega), List.getElem?_set_self (by omega)]
  · rw [List.getElem?_set_ne (by omega), List.getElem?_set_ne (by omega), List.getElem?_set_self (by simp; omega)]
  · rw [List.getElem?_set_ne (by omega), List.getElem?_set_self (by simp; omega)]
  · rw [List.getElem?_set_self (by simp; omega)]

/-- a row of len elements at block g that can be written and reads as D 0, D 1, .. -/
def EOwn (w : World) (base g len : Nat) (D : Nat → Ev) : Prop :=
  ∃ xs, w.ownsRow base 36 4 (.slice (some ⟨g, 0, none⟩) len len) len xs ∧ ∀ j, j < len → Laid4 xs D j
theorem evs_of_own {w : World} {base g len cap : Nat} {xs : List Value} {D : Nat → Ev} (h : w.ownsRow base 36 4 (.slice (some ⟨g, 0, none⟩) len cap) len xs) (hx : ∀ j, j < len → Laid4 xs D j) (hc : cap ≤ 9223372036854775807) (hlc : len ≤ cap) : IsEvs w (some ⟨g, 0, none⟩) len cap D := by
  refine ⟨hlc, hc, fun hp => ⟨g, 0, rfl, own_live h, fun j hj => ?_⟩⟩
  obtain ⟨g0, g1, g2, g3⟩ := hx j hj
  refine ⟨?_, ?_, ?_, ?_⟩
  · rw [Nat.zero_add, h.cellAt _ (by omega)]; exact g0
  · rw [Nat.zero_add, h.cellAt _ (by omega)]; exact g1
  · rw [Nat.zero_add, h.cellAt _ (by omega)]; exact g2
  · rw [Nat.zero_add, h.cellAt _ (by omega)]; exact g3
theorem EOwn.evs {w : World} {base g len : Nat} {D : Nat → Ev} (h : EOwn w base g len D) (hl : len ≤ 1048576) : IsEvs w (some ⟨g, 0, none⟩) len len D := by
  obtain ⟨xs, h1, h2⟩ := h
  exact evs_of_own h1 h2 (by omega) (Nat.le_refl _)
theorem EOwn.below {w w' : World} {base g len : Nat} {D : Nat → Ev} (h : EOwn w base g len D) (hB : Below w.heap.size w w') : EOwn w' base g len D := by
  obtain ⟨xs, h1, h2⟩ := h
  exact ⟨xs, ownsRow_below h1 hB, h2⟩

/-- the same element, as a test -/
def Ev.same (x y : Ev) : Bool := x.a == y.a && (x.b == y.b && (x.c == y.c && (fun (p q : ByteArray) => p.toList == q.toList) x.d y.d))
theorem Ev.same_refl (x : Ev) : x.same x = true := by unfold Ev.same; simp []
end Go.Proofs.Ytjfciokpnhnhbaa
