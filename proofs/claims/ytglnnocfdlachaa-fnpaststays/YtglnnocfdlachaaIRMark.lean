/-
  Slices of numbers and rosters: the laws' own functions over them. No condition but that the slices read.
-/
import Derived.Test.YtglnnocfdlachaaRsF
namespace Go.Proofs.Ytglnnocfdlachaa
open Go.RowKit
set_option linter.unusedVariables false

theorem OwnI.kept {w w' : World} {base : Nat} {v : Value} {L : List Int} {r : Option Nat} (h : OwnI w base v L) (hG : w.grownBy w' r) (hne : ∀ k, v.ownBlock = some k → some k ≠ r) : OwnI w' base v L := by
  have hlt := World.ownsRow.lt h
  obtain ⟨h1, h2⟩ := h
  refine ⟨h1, ?_⟩
  rcases h2 with h2 | ⟨g, cap, cur, hv, hb, hh, q⟩
  · exact .inl h2
  · have hg : v.ownBlock = some g := by rw [hv]; rfl
    exact .inr ⟨g, cap, cur, hv, hb, (hG.block g (hlt g hg).2 (hne g hg)).trans hh, q⟩
theorem OwnI.nil (w : World) (base : Nat) : OwnI w base (.slice none 0 0) [] := ⟨rfl, .inl ⟨rfl, rfl⟩⟩

/-- n marks, from s on -/
def marksI (s n : Nat) : List Int := (List.range n).map fun i => ((s + i : Nat) : Int)
theorem marksI_len (s n : Nat) : (marksI s n).length = n := by unfold marksI; simp
theorem marksI_at {s n i : Nat} (h : i < n) : (marksI s n).getD i 0 = ((s + i : Nat) : Int) := by unfold marksI; simp [h]
theorem marksI_of {s n : Nat} {xs : List Value} (hl : xs.length = n) (h : ∀ i, i < n → xs[i]? = some (.int .i64 ((s + i : Nat) : Int))) : xs = (marksI s n).map (.int .i64 ·) := by
  apply List.ext_getElem?
  intro i
  by_cases hi : i < n
  · rw [h i hi]; unfold marksI; simp [hi]
  · rw [List.getElem?_eq_none (by omega), List.getElem?_eq_none (by simp [marksI_len]; omega)]

theorem OwnI.under {w w' : World} {b base : Nat} {v : Value} {L : List Int} (h : OwnI w b v L) (hB : Below base w w') (hne : ∀ k, v.ownBlock = some k → k < base) : OwnI w' b v L := by
  obtain ⟨h1, h2⟩ := h
  refine ⟨h1, ?_⟩
  rcases h2 with h2 | ⟨g, cap, cur, hv, hb, hh, q⟩
  · exact .inl h2
  · exact .inr ⟨g, cap, cur, hv, hb, (hB.block g (hne g (by rw [hv]; rfl))).trans hh, q⟩
end Go.Proofs.Ytglnnocfdlachaa
