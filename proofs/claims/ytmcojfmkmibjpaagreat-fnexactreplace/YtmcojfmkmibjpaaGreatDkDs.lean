/-
  Do: the specification's half. Conditions: the lists read, and are not huge.
-/
import Derived.Test.YtmcojfmkmibjpaaGreatDkAc
namespace Go.Proofs.YtmcojfmkmibjpaaGreat
open Go.RowKit
set_option linter.unusedVariables false

def dC (L S : List Fl) (O : List Dop) (o : Dop) : Nat := if diskB L S O = true then actC L O o else 1
def dL (L S : List Fl) (O : List Dop) (o : Dop) : List Fl := if diskB L S O = true then actL L O o else []
def dS (L S : List Fl) (O : List Dop) : List Fl := if diskB L S O = true then S else []
def dO (L S : List Fl) (O : List Dop) (o : Dop) : List Dop := if diskB L S O = true then actO L O o else []
theorem d_no {L S : List Fl} {O : List Dop} (o : Dop) (h : diskB L S O = false) : dC L S O o = 1 ∧ dL L S O o = [] ∧ dS L S O = [] ∧ dO L S O o = [] := by
  unfold dC dL dS dO
  rw [h]
  exact ⟨rfl, rfl, rfl, rfl⟩
theorem d_yes {L S : List Fl} {O : List Dop} (o : Dop) (h : diskB L S O = true) : dC L S O o = actC L O o ∧ dL L S O o = actL L O o ∧ dS L S O = S ∧ dO L S O o = actO L O o := by
  unfold dC dL dS dO
  rw [h]
  exact ⟨rfl, rfl, rfl, rfl⟩
theorem disk_live {L S : List Fl} {O : List Dop} (h : diskB L S O = true) : filesB L = true ∧ filesB S = true ∧ O.length ≤ 200 := by
  unfold diskB at h
  simp only [Bool.and_eq_true, decide_eq_true_eq] at h
  exact ⟨h.1, h.2.1, h.2.2.1⟩

/-- what reads as texts lies in no block of slices -/
theorem RdF.far {w w' : World} {v : Value} {L : List Fl} {R : Nat} {cs : Array Value} {t : TypeId} (h : RdF w v L) (hs : w.heap.size ≤ w'.heap.size) (hR : w.heap[R]? = some (.cells cs t (0, 0))) (hcs : ∀ (i : Nat) s, cs[i]? ≠ some (.string s)) (he : ∀ k, k ≠ R → w'.heap[k]? = w.heap[k]?) : RdF w' v L := by
  obtain ⟨a, cap, rfl, h1, h2, h3⟩ := h
  refine ⟨a, cap, rfl, h1, h2, fun hp => ?_⟩
  obtain ⟨b, off, e, hb, hl⟩ := h3 hp
  have hne : b ≠ R := fun q => by
    have c := (hl 0 hp).c0
    rw [q, cellN hR] at c
    exact hcs _ _ c
  exact ⟨b, off, e, Nat.lt_of_lt_of_le hb hs, fun i hi => (hl i hi).kept (he b hne)⟩
theorem RdO.far {w w' : World} {v : Value} {O : List Dop} {R : Nat} {cs : Array Value} {t : TypeId} (h : RdO w v O) (hs : w.heap.size ≤ w'.heap.size) (hR : w.heap[R]? = some (.cells cs t (0, 0))) (hcs : ∀ (i : Nat) s, cs[i]? ≠ some (.string s)) (he : ∀ k, k ≠ R → w'.heap[k]? = w.heap[k]?) : RdO w' v O := by
  obtain ⟨a, cap, rfl, h1, h2, h3⟩ := h
  refine ⟨a, cap, rfl, h1, h2, fun hp => ?_⟩
  obtain ⟨b, off, e, hb, hl⟩ := h3 hp
  have hne : b ≠ R := fun q => by
    have c := hl 0 hp 1 (by omega)
    rw [q, cellN hR] at c
    exact hcs _ _ (c.trans rfl)
  exact ⟨b, off, e, Nat.lt_of_lt_of_le hb hs, fun i hi t ht => (World.cell?_of_block (w := w) (a := ⟨b, off + i * 4 + t, none⟩) (he b hne)).trans (hl i hi t ht)⟩
theorem RdD.row {w : World} {x y z : Value} {L S : List Fl} {O : List Dop} {R : Nat} {t : TypeId} (h : RdD w x y z L S O) (hR : At3 w R t (.slice none 0 0) (.slice none 0 0) (.slice none 0 0)) (q : Array Value) : RdD (w.setRow R q) x y z L S O := by
  have hs : w.heap.size ≤ (w.setRow R q).heap.size := by simp [World.setRow]
  have hcs : ∀ (i : Nat) s, (#[Value.slice none 0 0, .slice none 0 0, .slice none 0 0] : Array Value)[i]? ≠ some (.string s) := fun i s => by
    match i with
    | 0 => simp
    | 1 => simp
    | 2 => simp
    | (k + 3) => simp
  have he : ∀ k, k ≠ R → (w.setRow R q).heap[k]? = w.heap[k]? := fun k hk => setRow_other _ _ _ _ hk
  exact ⟨h.1.far hs hR hcs he, h.2.1.far hs hR hcs he, h.2.2.far hs hR hcs he⟩
end Go.Proofs.YtmcojfmkmibjpaaGreat
