/-
  Disks, plainly: a right disk stays right behind Sync and Do. No condition.
-/
import Derived.Test.YtbohaefmokbgbaaDkDs
import Derived.Test.YtbohaefmokbgbaaDkCa
namespace Go.Proofs.Ytbohaefmokbgbaa
open Go.RowKit
set_option linter.unusedVariables false

theorem bytes_is {x y : ByteArray} (h : x.toList = y.toList) : x = y := by
  rw [ByteArray.toList_eq, ByteArray.toList_eq] at h
  obtain ⟨x⟩ := x
  obtain ⟨y⟩ := y
  have e : x = y := Array.toList_inj.1 h
  rw [e]
theorem flEq_is {x y : Fl} (h : flEq x y = true) : x = y := by
  unfold flEq at h
  simp only [Bool.and_eq_true, beq_iff_eq] at h
  obtain ⟨xn, xd⟩ := x
  obtain ⟨yn, yd⟩ := y
  have e1 : xn = yn := bytes_is h.1
  have e2 : xd = yd := bytes_is h.2
  rw [e1, e2]
theorem sameF_is {L M : List Fl} (h : sameF L M = true) : L = M := by
  unfold sameF at h
  simp only [Bool.and_eq_true, decide_eq_true_eq, List.all_eq_true, List.mem_range] at h
  refine List.ext_getElem h.1 fun i h1 h2 => ?_
  have := flEq_is (h.2 i h1)
  simpa [h1, h2] using this
theorem sameF_refl (L : List Fl) : sameF L L = true := by
  unfold sameF
  simp only [decide_true, Bool.true_and, List.all_eq_true]
  intro i _
  unfold flEq
  simp
theorem disk_run {L S : List Fl} {O : List Dop} (h : diskB L S O = true) : runB S O = some L := by
  unfold diskB at h
  simp only [Bool.and_eq_true] at h
  have h4 := h.2.2.2
  split at h4
  · rename_i n e
    rw [e, sameF_is h4]
  · cases h4
theorem disk_of {L S : List Fl} {O : List Dop} (h1 : filesB L = true) (h2 : filesB S = true) (h3 : O.length ≤ 200) (h4 : runB S O = some L) : diskB L S O = true := by
  unfold diskB
  rw [h1, h2, decide_eq_true h3, h4]
  exact sameF_refl L
theorem disk_nil : diskB [] [] [] = true := by decide
theorem disk_sync {L S : List Fl} {O : List Dop} (h : diskB L S O = true) : diskB L L [] = true :=
  disk_of (disk_live h).1 (disk_live h).1 (by simp) rfl
theorem act_zero {L : List Fl} {O : List Dop} {o : Dop} (h : actC L O o = 0) : formB o = true ∧ (doF L o).2 = true ∧ O.length ≠ 200 ∧ filesB (doF L o).1 = true := by
  unfold actC at h
  split at h
  · cases h
  · rename_i h1
    split at h
    · cases h
    · rename_i h2
      split at h
      · cases h
      · rename_i h3
        refine ⟨by simpa using h1, by simpa using h2, fun e => h3 (.inl e), ?_⟩
        cases e : filesB (doF L o).1 with
        | true => rfl
        | false => exact absurd (.inr e) h3
theorem disk_do {L S : List Fl} {O : List Dop} {o : Dop} (h : diskB L S O = true) (hc : dC L S O o = 0) : diskB (dL L S O o) (dS L S O) (dO L S O o) = true := by
  obtain ⟨e0, e1, e2, e3⟩ := d_yes o h
  rw [e0] at hc
  obtain ⟨f1, f2, f3, f4⟩ := act_zero hc
  rw [e1, e2, e3, (act_yes hc).1, (act_yes hc).2]
  refine disk_of f4 (disk_live h).2.1 (by have := (disk_live h).2.2; simp; omega) ?_
  rw [runB_append, disk_run h]
  show runB L [o] = _
  simp [runB, f1, f2, f4]
theorem form_to {o : Dop} (h : formB o = true) (hk : o.k ≠ 2) : o.t.size = 0 := by
  have hz : o.t.toList.isEmpty = true := by
    unfold formB at h
    simp only [Bool.and_eq_true] at h
    have h2 := h.2.2
    rw [if_neg hk] at h2
    simp only [Bool.and_eq_true] at h2
    exact h2.1
  rw [ByteArray.toList_eq, List.isEmpty_iff] at hz
  show o.t.data.size = 0
  rw [← Array.length_toList, hz]
  rfl
theorem small_disk {L S : List Fl} {O : List Dop} (h : diskB L S O = true) : SmallD L S O ∧ L.length ≤ 60 ∧ S.length ≤ 60 ∧ O.length ≤ 200 := by
  obtain ⟨h1, h2, h3⟩ := disk_live h
  have p1 := filesB_parts h1
  have p2 := filesB_parts h2
  refine ⟨⟨by omega, by omega, fun f hf => by have := p1.2.2 f hf; omega, fun f hf => by have := p2.2.2 f hf; omega, fun o ho => ?_⟩, p1.1, p2.1, h3⟩
  have hf := disk_forms h o ho
  obtain ⟨q1, q2, _⟩ := formB_parts hf
  have hn : o.n.size ≤ 100 := by unfold nmB at q1; simp at q1; exact q1.2
  have ht : o.t.size ≤ 100000000 := by
    by_cases hk : o.k = 2
    · have := q2 hk; unfold nmB at this; simp at this; omega
    · have := form_to hf hk; omega
  exact ⟨by omega, ht, by have := disk_small h o ho; omega⟩
end Go.Proofs.Ytbohaefmokbgbaa
