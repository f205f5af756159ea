/-
  The law FnPadded answers true at every code, where the table 'sizes' holds its numbers and the code reads as bytes.
-/
import Derived.Test.YtgjoppllhegkoaaDoorBody
namespace Go.Proofs.YtgjoppllhegkoaaDoor
open Go.RowKit
set_option linter.unusedVariables false

theorem zeros_at {k i : Nat} (h : i < k) : (zeros k).data.toList[i]? = some 0 := by
  rw [zeros_list, List.getElem?_replicate, if_pos h]

theorem padB_mark (s : ByteArray) (m : Nat) : bt (padB s m) s.size = 128 := by
  refine (bt_of_byte (b := 128) ?_).2
  rw [padB_list, List.getElem?_append_right (by rw [← Lib.size_eq]; exact Nat.le_refl _), ← Lib.size_eq, Nat.sub_self]
  rfl

theorem padB_zero (s : ByteArray) (m j : Nat) (h1 : s.size + 1 ≤ j) (h2 : j < (padB s m).size) : bt (padB s m) j = 0 := by
  rw [padB_size] at h2
  refine (bt_of_byte (b := 0) ?_).2
  rw [padB_list, List.getElem?_append_right (by rw [← Lib.size_eq]; omega), ← Lib.size_eq, show j - s.size = (j - s.size - 1) + 1 by omega, List.getElem?_cons_succ, List.getElem?_replicate, if_pos (by omega)]

theorem padB_trail (s : ByteArray) (m : Nat) : Trail (padB s m) (s.size + 1) :=
  ⟨by rw [padB_size]; omega, fun j h1 h2 => padB_zero s m j h1 h2, fun _ => by rw [Nat.add_sub_cancel, padB_mark]; decide⟩

theorem padB_body (s : ByteArray) (m : Nat) : (padB s m).extract 0 s.size = s := by
  apply ba_ext
  rw [extract_list, padB_list, Lib.size_eq s]
  simp

/-- what is padded comes back -/
theorem unpad_pad {s : ByteArray} {z : Nat} (hz : sizeOf (s.size : Int) = z) (hlt : s.size < z) : unpadR (padB s (z - s.size - 1)) (s.size + 1) = .tuple #[.string s, .bool true] := by
  rw [unpadR_yes ⟨by omega, by rw [Nat.add_sub_cancel]; exact padB_mark _ _, by rw [show (((s.size + 1 : Nat) : Int) - 1) = (s.size : Int) by omega, hz, padB_size]; omega⟩]
  rw [Nat.add_sub_cancel, padB_body]

/-- what comes back, padded again, is the text -/
theorem pad_unpad {x y : ByteArray} {k : Nat} (ht : Trail x k) (h : unpadR x k = .tuple #[.string y, .bool true]) : padR y = .tuple #[.string x, .bool true] := by
  by_cases hc : 0 < k ∧ bt x (k - 1) = 128 ∧ sizeOf ((k : Int) - 1) = x.size
  · rw [unpadR_yes hc] at h
    have hy : x.extract 0 (k - 1) = y := by simpa using h
    subst hy
    obtain ⟨hk, hb, hz⟩ := hc
    have hle := ht.le
    have hos : (x.extract 0 (k - 1)).size = k - 1 := by rw [ByteArray.size_extract]; omega
    have hk1 : ((k - 1 : Nat) : Int) = (k : Int) - 1 := by omega
    by_cases h2 : k - 1 ≤ 200
    · unfold padR
      rw [hos, if_pos h2, hk1, hz]
      have := (pad_back (m := x.size - k) ht hk).2 ⟨hb, by omega⟩
      rw [show ((x.size : Int).toNat - (k - 1) - 1) = x.size - k by omega, this]
    · have := sizeOf_big h2
      rw [hk1, hz] at this
      omega
  · rw [unpadR_no hc] at h
    simp at h

end Go.Proofs.YtgjoppllhegkoaaDoor
