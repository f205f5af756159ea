/-
  A roster in a block of its own, one of its lists written anew. No condition.
-/
import Derived.Test.YtglnnocfdlachaaRsR
namespace Go.Proofs.Ytglnnocfdlachaa
open Go.RowKit
set_option linter.unusedVariables false

theorem OwnI.cell {w : World} {base : Nat} {a : Option Addr} {m c q : Nat} {G : List Int} (h : OwnI w base (.slice a m c) G) (hq : q < G.length) : ∃ b, a = some ⟨b, 0, none⟩ ∧ m = G.length ∧ w.cell? ⟨b, q, none⟩ = some (.int .i64 (G.getD q 0)) := by
  have h' := h
  obtain ⟨h1, h2⟩ := h
  rcases h2 with ⟨h2, h0⟩ | ⟨g, cap, cur, hv, _⟩
  · simp at h2
    have : G = [] := List.eq_nil_of_length_eq_zero h0
    subst this
    exact absurd hq (Nat.not_lt_zero _)
  · simp at hv
    obtain ⟨rfl, rfl, rfl⟩ := hv
    refine ⟨g, rfl, rfl, ?_⟩
    rw [World.ownsRow.cellAt h' q (by omega)]
    simp [hq]
/-- the copy in its block: members x, administrators y; beside it the list of those that are gone -/
def RosAt (X w : World) (base k2 : Nat) (x y vg : Value) (LM LA G : List Int) : Prop :=
  w.heap[k2]? = some (.cells #[x, y] 41 (0, 0)) ∧ OwnI w base x LM ∧ OwnI w base y LA ∧ OwnI w base vg G ∧ Below X.heap.size X w
theorem RosAt.below {X w w' : World} {base k2 : Nat} {x y vg : Value} {LM LA G : List Int} (h : RosAt X w base k2 x y vg LM LA G) (hB : Below w.heap.size w w') : RosAt X w' base k2 x y vg LM LA G := by
  obtain ⟨h1, h2, h3, h4, h5⟩ := h
  exact ⟨(hB.block _ (lt_of_block h1)).trans h1, h2.below hB, h3.below hB, h4.below hB, h5.trans (hB.mono h5.size)⟩
theorem RosAt.set0 {X w : World} {base k2 : Nat} {x y vg v : Value} {LM LA G L : List Int} (h : RosAt X w base k2 x y vg LM LA G) (hk : X.heap.size ≤ k2) (hv : OwnI w base v L) : RosAt X (w.setCell ⟨k2, 0, none⟩ v) base k2 v y vg L LA G := by
  obtain ⟨h1, h2, h3, h4, h5⟩ := h
  exact ⟨by rw [heap_setCell_same _ _ _ _ 41 _ h1]; rfl, hv.set h1 0 v, h3.set h1 0 v, h4.set h1 0 v, h5.setCell (p := ⟨k2, 0, none⟩) hk v⟩
theorem RosAt.set1 {X w : World} {base k2 : Nat} {x y vg v : Value} {LM LA G L : List Int} (h : RosAt X w base k2 x y vg LM LA G) (hk : X.heap.size ≤ k2) (hv : OwnI w base v L) : RosAt X (w.setCell ⟨k2, 1, none⟩ v) base k2 x v vg LM L G := by
  obtain ⟨h1, h2, h3, h4, h5⟩ := h
  exact ⟨by rw [heap_setCell_same _ _ _ _ 41 _ h1]; rfl, h2.set h1 1 v, hv.set h1 1 v, h4.set h1 1 v, h5.setCell (p := ⟨k2, 1, none⟩) hk v⟩
theorem below_drew {w w' : World} (h : Below w.drew.heap.size w.drew w') : Below w.heap.size w w' := ⟨h.os, h.tape, h.output, h.size, h.block⟩
end Go.Proofs.Ytglnnocfdlachaa
