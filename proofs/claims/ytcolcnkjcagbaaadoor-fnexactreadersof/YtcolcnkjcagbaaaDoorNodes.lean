/-
  The functions over one TNode and over []TNode that the laws call return what plain data says. No condition but that the slices read.
-/
import Derived.Test.YtcolcnkjcagbaaaDoorBase
namespace Go.Proofs.YtcolcnkjcagbaaaDoor
open Go.RowKit
set_option linter.unusedVariables false

/-- a slice of nodes that reads as Kd i, N i, A i, B i in world w -/
def IsNodes (w : World) (a : Option Addr) (len cap : Nat) (Kd N A B : Nat → Int) : Prop :=
  len ≤ cap ∧ cap ≤ 9223372036854775807 ∧ (0 < len → ∃ (b off : Nat), a = some ⟨b, off, none⟩ ∧ b < w.heap.size ∧ ∀ i, i < len → w.cell? ⟨b, off + i * 4, none⟩ = some (.int .i64 (Kd i)) ∧ w.cell? ⟨b, off + i * 4 + 1, none⟩ = some (.int .i64 (N i)) ∧ w.cell? ⟨b, off + i * 4 + 2, none⟩ = some (.int .i64 (A i)) ∧ w.cell? ⟨b, off + i * 4 + 3, none⟩ = some (.int .i64 (B i)))

theorem IsNodes.below {w w' : World} {a : Option Addr} {len cap : Nat} {Kd N A B : Nat → Int} (h : IsNodes w a len cap Kd N A B) (hB : Below w.heap.size w w') : IsNodes w' a len cap Kd N A B := by
  obtain ⟨h1, h2, h3⟩ := h
  refine ⟨h1, h2, fun hp => ?_⟩
  obtain ⟨b, off, e, hb, hc⟩ := h3 hp
  refine ⟨b, off, e, by have := hB.size; omega, fun i hi => ?_⟩
  obtain ⟨c1, c2, c3, c4⟩ := hc i hi
  exact ⟨(hB.cell (p := ⟨b, _, none⟩) hb).trans c1, (hB.cell (p := ⟨b, _, none⟩) hb).trans c2, (hB.cell (p := ⟨b, _, none⟩) hb).trans c3, (hB.cell (p := ⟨b, _, none⟩) hb).trans c4⟩

theorem get_set4 (xs : List Value) (k j t : Nat) (v0 v1 v2 v3 : Value) (hj : j < k) (ht : t < 4) :
    ((((xs.set (k * 4) v0).set (k * 4 + 1) v1).set (k * 4 + 2) v2).set (k * 4 + 3) v3)[j * 4 + t]? = xs[j * 4 + t]? := by
  rw [List.getElem?_set_ne (by omega), List.getElem?_set_ne (by omega), List.getElem?_set_ne (by omega), List.getElem?_set_ne (by omega)]

end Go.Proofs.YtcolcnkjcagbaaaDoor
