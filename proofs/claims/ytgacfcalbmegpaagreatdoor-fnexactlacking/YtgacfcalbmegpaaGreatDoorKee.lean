/-
  Small laws on lists of texts that the call owns. No condition.
-/
import Derived.Test.YtgacfcalbmegpaaGreatDoorSPut
namespace Go.Proofs.YtgacfcalbmegpaaGreatDoor
open Go.RowKit
set_option linter.unusedVariables false

theorem putL_len (s : List UInt8) : ∀ L : List (List UInt8), (putL L s).length ≤ L.length + 1
  | [] => by simp [putL]
  | x :: l => by
    have := putL_len s l
    unfold putL
    split
    · simp; omega
    · split <;> simp
theorem OwnS.ownL {w : World} {base g cap : Nat} {L : List (List UInt8)} (h : OwnS w base g cap L) : OwnL w base (.slice (some ⟨g, 0, none⟩) L.length cap) L := h
theorem OwnS.made (w : World) (base : Nat) (hb : base ≤ w.heap.size) : OwnS (w.alloc (.cells #[] 9)) base w.heap.size 0 [] := World.ownsRow_made w #[] 0 hb (by decide) rfl

end Go.Proofs.YtgacfcalbmegpaaGreatDoor
