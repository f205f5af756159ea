/-
  One epoch of the program's circle is one epoch of the specification's roster. No condition but that the events are fine.
-/
import Derived.Test.YtglnnocfdlachaaIPass
namespace Go.Proofs.Ytglnnocfdlachaa
open Go.RowKit
set_option linter.unusedVariables false

theorem exSel (D : Nat → Ev) (e : Int) (len : Nat) (P : Ev → Prop) : (∃ k, k < (selTo D e len).length ∧ P ((selTo D e len).getD k evZ)) ↔ ∃ j, j < len ∧ (D j).a = e ∧ P (D j) := by
  constructor
  · rintro ⟨k, hk, hp⟩
    have hm : (selTo D e len).getD k evZ ∈ selTo D e len := by simp [hk]
    obtain ⟨j, hj, h1, h2⟩ := (selTo_mem D e _ len).1 hm
    exact ⟨j, hj, h1, by rw [h2]; exact hp⟩
  · rintro ⟨j, hj, h1, hp⟩
    obtain ⟨k, hk, e'⟩ := List.getElem_of_mem ((selTo_mem D e (D j) len).2 ⟨j, hj, h1, rfl⟩)
    refine ⟨k, hk, ?_⟩
    have : (selTo D e len).getD k evZ = D j := by simp [hk, e']
    rw [this]
    exact hp

theorem gone_step (D : Nat → Ev) (e : Int) (len : Nat) (A : Int → Prop) (adm : List Int) (hA : ∀ z, A z ↔ z ∈ adm) (hf : ∀ j, j < len → (D j).fine = true) (x : Int) : GoneP A (selTo D e len) x ↔ x ∈ goneTo D e adm len := by
  unfold GoneP
  rw [exSel D e len (fun y => y.c = 2 ∧ A y.b ∧ y.d = x), goneTo_mem D e adm x len hf]
  refine exists_congr fun j => and_congr Iff.rfl ?_
  unfold isDrop
  rw [hA]
  simp [hasI_iff, and_assoc]
theorem raise_step (D : Nat → Ev) (e : Int) (len : Nat) (A : Int → Prop) (adm : List Int) (hA : ∀ z, A z ↔ z ∈ adm) (hf : ∀ j, j < len → (D j).fine = true) (mem : List Int) (hra : Ros adm) (x : Int) : ((A x ∧ ¬ GoneP A (selTo D e len) x) ∨ RaisesP A (GoneP A (selTo D e len)) (selTo D e len) (selTo D e len).length x) ↔ x ∈ (epochL D len e (mem, adm)).2 := by
  show _ ↔ x ∈ admTo D e (outTo (goneTo D e adm len) adm (goneTo D e adm len).length) (goneTo D e adm len) len
  rw [admTo_mem D e _ _ (outTo_ros _ hra _) x len hf, outTo_all, ← gone_step D e len A adm hA hf x, ← hA x]
  refine or_congr Iff.rfl ?_
  unfold RaisesP
  rw [exSel D e len (fun y => y.c = 3 ∧ (A y.b ∧ ¬ GoneP A (selTo D e len) y.b) ∧ ¬ GoneP A (selTo D e len) y.d ∧ y.d = x)]
  refine exists_congr fun j => and_congr Iff.rfl ?_
  unfold isRaise
  rw [gone_step D e len A adm hA hf, gone_step D e len A adm hA hf, hA]
  have h1 := hasI_iff (outTo (goneTo D e adm len) adm (goneTo D e adm len).length) (D j).b
  rw [outTo_all] at h1
  have h2 := hasI_iff (goneTo D e adm len) (D j).d
  rw [← h1, ← h2]
  simp [and_assoc]
theorem add_step (D : Nat → Ev) (e : Int) (len : Nat) (A : Int → Prop) (adm : List Int) (hA : ∀ z, A z ↔ z ∈ adm) (hf : ∀ j, j < len → (D j).fine = true) (M : Int → Prop) (mem : List Int) (hM : ∀ z, M z ↔ z ∈ mem) (hrm : Ros mem) (x : Int) : ((M x ∧ ¬ GoneP A (selTo D e len) x) ∨ AddsP A (GoneP A (selTo D e len)) (selTo D e len) (selTo D e len).length x) ↔ x ∈ (epochL D len e (mem, adm)).1 := by
  show _ ↔ x ∈ memTo D e adm (outTo (goneTo D e adm len) adm (goneTo D e adm len).length) (goneTo D e adm len) (outTo (goneTo D e adm len) mem (goneTo D e adm len).length) len
  rw [memTo_mem D e _ _ _ _ (outTo_ros _ hrm _) x len hf, outTo_all, ← gone_step D e len A adm hA hf x, ← hM x]
  refine or_congr Iff.rfl ?_
  unfold AddsP
  rw [exSel D e len (fun y => y.c ≠ 2 ∧ (A y.b ∧ ¬ GoneP A (selTo D e len) y.b) ∧ ¬ GoneP A (selTo D e len) y.d ∧ y.d = x)]
  refine exists_congr fun j => and_congr Iff.rfl ?_
  unfold isAdd
  rw [gone_step D e len A adm hA hf, gone_step D e len A adm hA hf, hA]
  have h1 := hasI_iff (outTo (goneTo D e adm len) adm (goneTo D e adm len).length) (D j).b
  rw [outTo_all] at h1
  have h2 := hasI_iff (goneTo D e adm len) (D j).d
  have h3 := hasI_iff adm (D j).b
  have h4 : hasI (outTo (goneTo D e adm len) adm (goneTo D e adm len).length) (D j).b = true → hasI adm (D j).b = true := fun h => h3.2 (h1.1 h).1
  rw [← h1, ← h2]
  cases hq : hasI (outTo (goneTo D e adm len) adm (goneTo D e adm len).length) (D j).b with
  | false => simp
  | true => rw [h4 hq]; simp [and_assoc]
end Go.Proofs.Ytglnnocfdlachaa
