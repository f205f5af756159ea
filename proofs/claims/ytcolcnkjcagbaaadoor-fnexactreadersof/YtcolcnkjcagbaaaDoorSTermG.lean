/-
  The specification's recursive reader of terms does what the plain reader does, its arms. No condition but that the reader lies in memory.
-/
import Derived.Test.YtcolcnkjcagbaaaDoorSTermB
namespace Go.Proofs.YtcolcnkjcagbaaaDoor
open Go.RowKit
set_option linter.unusedVariables false

theorem pre_first {s : ByteArray} {i : Nat} {c : UInt8} {cs : List UInt8} (h : preB s i { data := (c :: cs).toArray } = true) : bt s i = (c.toNat : Int) := by
  unfold preB Lib.hasPrefix at h
  rw [List.isPrefixOf_iff_prefix] at h
  obtain ⟨t, ht⟩ := h
  have hl : i < s.size := by
    have := congrArg List.length ht
    simp only [List.length_append, List.length_cons, List.length_drop] at this
    rw [Lib.size_eq]
    have := this
    simp at *
    omega
  have h0 : (s.data.toList.drop i)[0]? = some c := by rw [← ht]; rfl
  rw [List.getElem?_drop, Nat.add_zero, Array.getElem?_toList] at h0
  rw [← bt_in hl]
  have : s.data[i]? = some s[i] := by
    rw [Array.getElem?_eq_getElem (by rw [← ByteArray.size]; exact hl)]; rfl
  rw [this] at h0
  simp at h0
  rw [h0]

theorem bfalse {b : Bool} (h : ¬ b = true) : b = false := by simpa using h

end Go.Proofs.YtcolcnkjcagbaaaDoor
