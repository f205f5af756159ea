/-
  Slices of elements, nil or not, that the call owns: read, held against each other, kept while others are written. No condition.
-/
import Derived.Test.YtjfciokpnhnhbaaEvV
namespace Go.Proofs.Ytjfciokpnhnhbaa
open Go.RowKit
set_option linter.unusedVariables false

theorem OwnV.evs {w : World} {base : Nat} {v : Value} {L : List Ev} (h : OwnV w base v L) : ∃ a cap, v = .slice a L.length cap ∧ IsEvs w a L.length cap (fun i => L.getD i evZ) := by
  rcases h.cases with ⟨rfl, rfl⟩ | ⟨g, cap, rfl, hO⟩
  · exact ⟨none, 0, rfl, Nat.le_refl _, by omega, fun h => absurd h (Nat.lt_irrefl _)⟩
  · exact ⟨_, cap, rfl, hO.evs⟩
theorem OwnV.at {w w' : World} {base : Nat} {v : Value} {L : List Ev} (h : OwnV w base v L) (he : ∀ k, v.ownBlock = some k → w'.heap[k]? = w.heap[k]?) : OwnV w' base v L := by
  obtain ⟨h1, h2⟩ := h
  refine ⟨h1, ?_⟩
  rcases h2 with h2 | ⟨g, cap, cur, hv, hb, hh, r⟩
  · exact .inl h2
  · exact .inr ⟨g, cap, cur, hv, hb, (he g (by rw [hv]; rfl)).trans hh, r⟩
theorem OwnV.kept {w w' : World} {base : Nat} {v : Value} {L : List Ev} {r : Option Nat} (h : OwnV w base v L) (hG : w.grownBy w' r) (hne : ∀ k, v.ownBlock = some k → some k ≠ r) : OwnV w' base v L :=
  h.at fun k hk => hG.block k (World.ownsRow.lt h k hk).2 (hne k hk)

end Go.Proofs.Ytjfciokpnhnhbaa
