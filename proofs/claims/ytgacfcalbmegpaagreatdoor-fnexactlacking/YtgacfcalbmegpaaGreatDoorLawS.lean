/-
  Small laws for the laws over a dag that answer texts. No condition.
-/
import Derived.Test.YtgacfcalbmegpaaGreatDoorRise
import Derived.Test.YtgacfcalbmegpaaGreatDoorMark3
namespace Go.Proofs.YtgacfcalbmegpaaGreatDoor
open Go.RowKit
set_option linter.unusedVariables false

theorem OwnL.strs2 {w : World} {base : Nat} {v : Value} {L : List (List UInt8)} (h : OwnL w base v L) :
    ∃ a cap, v = .slice a L.length cap ∧ IsStrs w a L.length cap (atL L) ∧ ∀ b off, a = some ⟨b, off, none⟩ → base ≤ b ∧ b < w.heap.size := by
  obtain ⟨a, cap, rfl, hI, hb⟩ := h.strs
  refine ⟨a, cap, rfl, hI, fun b off e => ⟨hb b off e, ?_⟩⟩
  subst e
  exact (h.lt b rfl).2
theorem OwnL.kept {p : Nat → Prop} {w w' : World} {base : Nat} {v : Value} {L : List (List UInt8)} (h : OwnL w base v L) (hK : Kept p w w') (hp : ∀ b, base ≤ b → p b) : OwnL w' base v L := by
  obtain ⟨h1, h2⟩ := h
  refine ⟨h1, ?_⟩
  rcases h2 with h2 | ⟨g, cap, cur, hv, hg, hh, r⟩
  · exact Or.inl h2
  · exact Or.inr ⟨g, cap, cur, hv, hg, (hK.block g (lt_of_block hh) (hp g hg)).trans hh, r⟩
theorem NOwn.top {w : World} {base g len : Nat} {G n : Nat → Nat} (h : NOwn w base g len G n) : g < w.heap.size ∧ ∀ i, i < len → G i < w.heap.size := by
  obtain ⟨_, ys, ho, hr⟩ := h
  exact ⟨own_live ho, fun i hi => (hr i hi).2.1.lt⟩
end Go.Proofs.YtgacfcalbmegpaaGreatDoor
