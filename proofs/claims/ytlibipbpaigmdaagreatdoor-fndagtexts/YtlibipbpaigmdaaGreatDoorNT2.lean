/-
  NodeText, the program's and the specification's, answer the same text. No condition but that the ups read, lengths, and, of the program's, the library's table of powers of ten.
-/
import Derived.Test.YtlibipbpaigmdaaGreatDoorNT
namespace Go.Proofs.YtlibipbpaigmdaaGreatDoor
open Go.RowKit
set_option linter.unusedVariables false

/-- what both answer -/
def textR (a s k : Int) (key text : ByteArray) (S : Nat → ByteArray) (len : Nat) : ByteArray := if nodeB a s k key text S len = true then upsB (headB a.toNat s.toNat k.toNat key text) S len else ⟨#[]⟩

theorem node_right {a s k : Int} {key text : ByteArray} {S : Nat → ByteArray} {len : Nat} (h : nodeB a s k key text S len = true) :
    (1 ≤ a ∧ a ≤ 9) ∧ (1 ≤ s ∧ s ≤ 1000000) ∧ (1 ≤ k ∧ k ≤ 3) ∧ key.size ≤ 20 ∧ text.size ≤ 20 ∧ len ≤ 5 ∧ ∀ i, i < len → (S i).size = 64 := by
  unfold nodeB at h
  simp only [Bool.and_eq_true] at h
  obtain ⟨⟨⟨⟨⟨h1, h2⟩, h3⟩, h4⟩, h5⟩, h6⟩ := h
  unfold inB at h1 h2
  unfold plainB at h3 h4
  unfold idsB at h6
  simp only [Bool.and_eq_true, decide_eq_true_eq] at h1 h2 h3 h4 h6
  refine ⟨h1, h2, ?_, h3.1, h4.1, h6.1.1, fun i hi => ?_⟩
  · unfold opB at h5
    split at h5
    · omega
    · split at h5
      · omega
      · cases h5
  · have := h6.2
    unfold allB at this
    rw [List.all_eq_true] at this
    have := this i (List.mem_range.2 hi)
    unfold idB at this
    simp only [Bool.and_eq_true, decide_eq_true_eq] at this
    exact this.1

end Go.Proofs.YtlibipbpaigmdaaGreatDoor
