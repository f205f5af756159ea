/-
  Slices of numbers: how they read, slices that the call owns, the laws' own functions over them. No condition but that the slices read.
-/
import Derived.Test.YtjfciokpnhnhbaaBase
import Derived.Laws.AppendOwn
import Derived.Deep.AppendLies
import Derived.Deep.Onto
import Derived.Laws.CopyOwn
namespace Go.Proofs.Ytjfciokpnhnhbaa
open Go.RowKit
set_option linter.unusedVariables false

theorem infoI : (Try.prog.info? 2).map (fun i => (i.zero, i.size, i.bytes)) = some (some (.int .i64 0), 1, 8) := by kernel_rfl
/-- a slice of numbers that reads as L -/
def RdI (w : World) (v : Value) (L : List Int) : Prop :=
  ∃ a cap, v = .slice a L.length cap ∧ L.length ≤ cap ∧ cap ≤ 9223372036854775807 ∧ (0 < L.length → ∃ b off, a = some ⟨b, off, none⟩ ∧ b < w.heap.size ∧ ∀ i, i < L.length → w.cell? ⟨b, off + i, none⟩ = some (.int .i64 (L.getD i 0)))
theorem RdI.below {w w' : World} {v : Value} {L : List Int} (h : RdI w v L) (hB : Below w.heap.size w w') : RdI w' v L := by
  obtain ⟨a, cap, rfl, h1, h2, h3⟩ := h
  refine ⟨a, cap, rfl, h1, h2, fun hp => ?_⟩
  obtain ⟨b, off, e, hb, hc⟩ := h3 hp
  exact ⟨b, off, e, Nat.lt_of_lt_of_le hb hB.size, fun i hi => (hB.cell (p := ⟨b, off + i, none⟩) hb).trans (hc i hi)⟩
/-- numbers in memory of the call's own -/
def OwnI (w : World) (base : Nat) (v : Value) (L : List Int) : Prop := w.ownsRow base 2 1 v L.length (L.map (.int .i64 ·))
theorem OwnI.below {w w' : World} {base : Nat} {v : Value} {L : List Int} (h : OwnI w base v L) (hB : Below w.heap.size w w') : OwnI w' base v L := ownsRow_below h hB
theorem OwnI.rd {w : World} {base : Nat} {v : Value} {L : List Int} (h : OwnI w base v L) : RdI w v L := by
  have h' := h
  obtain ⟨h1, h2⟩ := h
  rcases h2 with ⟨rfl, h0⟩ | ⟨g, cap, cur, rfl, hb, hh, hn, hc, hs, ht⟩
  · have hL : L = [] := List.eq_nil_of_length_eq_zero h0
    subst hL
    exact ⟨none, 0, rfl, Nat.le_refl _, by omega, fun h => absurd h (Nat.lt_irrefl _)⟩
  · refine ⟨_, cap, rfl, hn, by unfold maxLen at hc; omega, fun _ => ⟨g, 0, rfl, lt_of_block hh, fun i hi => ?_⟩⟩
    rw [Nat.zero_add, World.ownsRow.cellAt h' i (by omega)]
    simp [hi]
theorem OwnI.base {w : World} {base base' : Nat} {v : Value} {L : List Int} (h : OwnI w base v L) (hb : base' ≤ base) : OwnI w base' v L := World.ownsRow.mono h hb

theorem RdI.shape {w : World} {v : Value} {L : List Int} (h : RdI w v L) : ∃ a c, v = .slice a L.length c ∧ True := by
  obtain ⟨a, c, e, _⟩ := h
  exact ⟨a, c, e, trivial⟩
theorem OwnI.slice {w : World} {base : Nat} {v : Value} {L : List Int} (h : OwnI w base v L) : ∃ a c, v = .slice a L.length c := by
  obtain ⟨a, c, e, _⟩ := h.rd
  exact ⟨a, c, e⟩

theorem OwnI.kept {w w' : World} {base : Nat} {v : Value} {L : List Int} {r : Option Nat} (h : OwnI w base v L) (hG : w.grownBy w' r) (hne : ∀ k, v.ownBlock = some k → some k ≠ r) : OwnI w' base v L := by
  have hlt := World.ownsRow.lt h
  obtain ⟨h1, h2⟩ := h
  refine ⟨h1, ?_⟩
  rcases h2 with h2 | ⟨g, cap, cur, hv, hb, hh, q⟩
  · exact .inl h2
  · have hg : v.ownBlock = some g := by rw [hv]; rfl
    exact .inr ⟨g, cap, cur, hv, hb, (hG.block g (hlt g hg).2 (hne g hg)).trans hh, q⟩
theorem OwnI.nil (w : World) (base : Nat) : OwnI w base (.slice none 0 0) [] := ⟨rfl, .inl ⟨rfl, rfl⟩⟩

/-- n marks, from s on -/
def marksI (s n : Nat) : List Int := (List.range n).map fun i => ((s + i : Nat) : Int)
theorem marksI_len (s n : Nat) : (marksI s n).length = n := by unfold marksI; simp
theorem marksI_at {s n i : Nat} (h : i < n) : (marksI s n).getD i 0 = ((s + i : Nat) : Int) := by unfold marksI; simp [h]
theorem marksI_of {s n : Nat} {xs : List Value} (hl : xs.length = n) (h : ∀ i, i < n → xs[i]? = some (.int .i64 ((s + i : Nat) : Int))) : xs = (marksI s n).map (.int .i64 ·) := by
  apply List.ext_getElem?
  intro i
  by_cases hi : i < n
  · rw [h i hi]; unfold marksI; simp [hi]
  · rw [List.getElem?_eq_none (by omega), List.getElem?_eq_none (by simp [marksI_len]; omega)]
end Go.Proofs.Ytjfciokpnhnhbaa
