/-
  The specification's merging of two chains. No condition but that the slices read.
-/
import Derived.Test.YtglnnocfdlachaaCPut
namespace Go.Proofs.Ytglnnocfdlachaa
open Go.RowKit
set_option linter.unusedVariables false

/-- a list of events is a right chain -/
def chainL (L : List Ev) : Bool := chainB (fun i => L.getD i evZ) L.length
theorem chainL_len {L : List Ev} (h : chainL L = true) : L.length ≤ 30 := by
  unfold chainL chainB at h
  simp at h
  exact h.1
theorem putE_len (s : Ev) : ∀ L : List Ev, (putE L s).length ≤ L.length + 1
  | [] => by simp [putE]
  | x :: l => by
    unfold putE
    split
    · have := putE_len s l; simp; omega
    · split <;> simp
/-- the events of both, each once -/
def mergeE (A B : List Ev) : List Ev := B.foldl putE A
theorem mergeE_len (A : List Ev) : ∀ B : List Ev, (mergeE A B).length ≤ A.length + B.length := by
  intro B
  induction B generalizing A with
  | nil => simp [mergeE]
  | cons x l ih =>
    have h := ih (putE A x)
    have h2 := putE_len x A
    show (mergeE (putE A x) l).length ≤ _
    simp
    omega
theorem mergeE_step (A B : List Ev) (k : Nat) (h : k < B.length) : putE (mergeE A (B.take k)) (B.getD k evZ) = mergeE A (B.take (k + 1)) := by
  unfold mergeE
  rw [List.take_add_one, List.foldl_append]
  have : B[k]?.toList = [B.getD k evZ] := by simp [h]
  rw [this]
  rfl
/-- two chains can be merged -/
def mergedB (A B : List Ev) : Bool := chainL A && (chainL B && chainL (mergeE A B))
/-- what a merging gives: the events of M in memory of its own, or nothing -/
def Gave (w : World) (base : Nat) (ok : Bool) (M : List Ev) (v : Value) : Prop :=
  (ok = false ∧ v = .slice none 0 0) ∨ (ok = true ∧ ∃ g gc, v = .slice (some ⟨g, 0, none⟩) M.length gc ∧ OwnE w base g gc M)

theorem specChainL (b off cap : Nat) (L : List Ev) (w : World) (h : Lies w b off L) (hb : b < w.heap.size) (hl : L.length ≤ cap) (hc : cap ≤ 9223372036854775807) (x : Bool) (hx : chainL L = x) :
    Calls Try.prog 20 #[.slice (some ⟨b, off, none⟩) L.length cap] w fun e w' => e = .returned (.bool x) ∧ Below w.heap.size w w' := by
  rw [← hx]; exact specChain_any _ _ _ _ w (h.evs hb hl hc)
theorem implChainL (b off cap : Nat) (L : List Ev) (w : World) (h : Lies w b off L) (hb : b < w.heap.size) (hl : L.length ≤ cap) (hc : cap ≤ 9223372036854775807) (x : Bool) (hx : chainL L = x) :
    Calls Try.prog 18 #[.slice (some ⟨b, off, none⟩) L.length cap] w fun e w' => e = .returned (.bool x) ∧ Below w.heap.size w w' := by
  rw [← hx]; exact implChain_any _ _ _ _ w (h.evs hb hl hc)
end Go.Proofs.Ytglnnocfdlachaa
