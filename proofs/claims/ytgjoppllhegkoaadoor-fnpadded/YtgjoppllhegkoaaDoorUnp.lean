/-
  Where a text's noughts at the end begin, and what Unpadded answers, as plain functions.
-/
import Derived.Test.YtgjoppllhegkoaaDoorPad
import Derived.Lib.TrimByte
import Derived.Lib.Strings
namespace Go.Proofs.YtgjoppllhegkoaaDoor
open Go.RowKit
set_option linter.unusedVariables false

/-- the byte of s at place i; -1 where there is none -/
def bt (s : ByteArray) (i : Nat) : Int := if h : i < s.size then (s[i].toNat : Int) else -1
theorem bt_in {s : ByteArray} {i : Nat} (h : i < s.size) : (s[i].toNat : Int) = bt s i := by unfold bt; rw [dif_pos h]
theorem bt_range {s : ByteArray} {i : Nat} (h : i < s.size) : 0 ≤ bt s i ∧ bt s i ≤ 255 := by
  rw [← bt_in h]
  have := s[i].toNat_lt
  omega

theorem get_list {s : ByteArray} {i : Nat} (h : i < s.size) : s.data.toList[i]? = some s[i] := by
  rw [Array.getElem?_toList]
  exact Array.getElem?_eq_getElem h

theorem byte_of_bt {s : ByteArray} {i : Nat} {b : UInt8} (h : i < s.size) (hb : bt s i = (b.toNat : Int)) : s.data.toList[i]? = some b := by
  rw [get_list h]
  rw [← bt_in h] at hb
  congr 1
  apply UInt8.toNat_inj.1
  omega

theorem bt_of_byte {s : ByteArray} {i : Nat} {b : UInt8} (hb : s.data.toList[i]? = some b) : i < s.size ∧ bt s i = (b.toNat : Int) := by
  have h : i < s.size := by
    rw [Lib.size_eq]
    rcases Nat.lt_or_ge i s.data.toList.length with h | h
    · exact h
    · rw [List.getElem?_eq_none h] at hb; cases hb
  rw [get_list h] at hb
  cases hb
  exact ⟨h, (bt_in h).symm⟩

/-- behind place k all bytes are 0, and the one ahead of it is not -/
structure Trail (s : ByteArray) (k : Nat) : Prop where
  le : k ≤ s.size
  zero : ∀ j, k ≤ j → j < s.size → bt s j = 0
  not : 0 < k → bt s (k - 1) ≠ 0

theorem trail_from (s : ByteArray) : ∀ n, n ≤ s.size → (∀ j, n ≤ j → j < s.size → bt s j = 0) → ∃ k, Trail s k
  | 0, hn, hz => ⟨0, hn, hz, fun h => absurd h (by omega)⟩
  | n + 1, hn, hz => by
    by_cases hb : bt s n = 0
    · exact trail_from s n (by omega) (fun j h1 h2 => by
        rcases Nat.lt_or_ge n j with h | h
        · exact hz j h h2
        · have : j = n := by omega
          rw [this]; exact hb)
    · exact ⟨n + 1, hn, hz, fun _ => hb⟩

theorem trail_ex (s : ByteArray) : ∃ k, Trail s k := trail_from s s.size (Nat.le_refl _) (fun j h1 h2 => absurd h2 (by omega))

/-- what both Unpadded functions answer -/
def unpadR (s : ByteArray) (k : Nat) : Value := if 0 < k ∧ bt s (k - 1) = 128 ∧ sizeOf ((k : Int) - 1) = s.size then .tuple #[.string (s.extract 0 (k - 1)), .bool true] else .tuple #[.string ⟨#[]⟩, .bool false]

theorem trim_trail {s : ByteArray} {k : Nat} (h : Trail s k) : Lib.trimRightB s.data.toList 0 = s.data.toList.take k := by
  refine Lib.trimRightB_take _ 0 k (by rw [← Lib.size_eq]; exact h.le) (fun j b hj hb => ?_) (fun b hk hb => ?_)
  · obtain ⟨h1, h2⟩ := bt_of_byte hb
    have := h.zero j hj h1
    rw [this] at h2
    apply UInt8.toNat_inj.1
    have : (0 : UInt8).toNat = 0 := rfl
    omega
  · obtain ⟨h1, h2⟩ := bt_of_byte hb
    intro hb0
    apply h.not hk
    rw [h2, hb0]
    rfl

theorem zeros_list (k : Nat) : (zeros k).data.toList = List.replicate k 0 := by
  show (Lib.repeatL [0] k).toArray.toList = _
  rw [List.toList_toArray]
  induction k with
  | zero => rfl
  | succ k ih => rw [Lib.repeatL, ih, List.replicate_succ]; rfl

theorem padB_list (s : ByteArray) (k : Nat) : (padB s k).data.toList = s.data.toList ++ (128 :: List.replicate k 0) := by
  unfold padB
  rw [ByteArray.data_append, ByteArray.data_append, Array.toList_append, Array.toList_append, zeros_list]
  simp

/-- a text that is marked is its body, the mark and noughts -/
theorem marked_list {s : ByteArray} {k : Nat} (h : Trail s k) (hk : 0 < k) (hb : bt s (k - 1) = 128) : s.data.toList = s.data.toList.take (k - 1) ++ (128 :: List.replicate (s.size - k) 0) := by
  have hlen := Lib.size_eq s
  have hle := h.le
  apply List.ext_getElem?
  intro i
  rcases Nat.lt_or_ge i (k - 1) with h1 | h1
  · rw [List.getElem?_append_left (by rw [List.length_take]; omega), List.getElem?_take_of_lt h1]
  · rw [List.getElem?_append_right (by rw [List.length_take]; omega), List.length_take, Nat.min_eq_left (by omega)]
    rcases Nat.lt_or_ge (k - 1) i with h2 | h2
    · obtain ⟨m, hm⟩ : ∃ m, i - (k - 1) = m + 1 := ⟨i - k, by omega⟩
      rw [hm, List.getElem?_cons_succ]
      by_cases h3 : i < s.size
      · rw [byte_of_bt (b := 0) h3 (h.zero i (by omega) h3), List.getElem?_replicate, if_pos (by omega)]
      · rw [List.getElem?_eq_none (by omega), List.getElem?_eq_none (by rw [List.length_replicate]; omega)]
    · have : i = k - 1 := by omega
      subst this
      rw [Nat.sub_self, List.getElem?_cons_zero]
      exact byte_of_bt (b := 128) (by omega) hb

theorem extract_list (s : ByteArray) (k : Nat) : (s.extract 0 k).data.toList = s.data.toList.take k := by
  have := Lib.extract_toList s 0 k
  rw [ByteArray.data_extract]
  simp

theorem ba_ext {a b : ByteArray} (h : a.data.toList = b.data.toList) : a = b := ByteArray.ext (Array.ext' h)

/-- the body padded again is the text, just where its size fits -/
theorem pad_back {s : ByteArray} {k m : Nat} (h : Trail s k) (hk : 0 < k) : padB (s.extract 0 (k - 1)) m = s ↔ bt s (k - 1) = 128 ∧ m + k = s.size := by
  have hle := h.le
  have hlen := Lib.size_eq s
  constructor
  · intro e
    have hsz := congrArg ByteArray.size e
    rw [padB_size, ByteArray.size_extract] at hsz
    refine ⟨?_, by omega⟩
    have e2 : (padB (s.extract 0 (k - 1)) m).data.toList[k - 1]? = some 128 := by
      rw [padB_list, extract_list, List.getElem?_append_right (by rw [List.length_take]; omega), List.length_take, Nat.min_eq_left (by omega), Nat.sub_self]
      rfl
    rw [e] at e2
    exact (bt_of_byte e2).2
  · rintro ⟨hb, hm⟩
    apply ba_ext
    rw [padB_list, extract_list, show m = s.size - k by omega]
    exact (marked_list h hk hb).symm

theorem suffix_mark {s : ByteArray} {k : Nat} (h : Trail s k) : Lib.hasSuffix (s.data.toList.take k) [128] = decide (0 < k ∧ bt s (k - 1) = 128) := by
  have hle := h.le
  have hlen := Lib.size_eq s
  unfold Lib.hasSuffix
  rw [Bool.eq_iff_iff, List.isSuffixOf_iff_suffix, decide_eq_true_iff]
  constructor
  · rintro ⟨t, ht⟩
    have hl := congrArg List.length ht
    rw [List.length_append, List.length_take] at hl
    simp at hl
    refine ⟨by omega, ?_⟩
    have : (s.data.toList.take k)[k - 1]? = some 128 := by
      rw [← ht, List.getElem?_append_right (by omega), show k - 1 - t.length = 0 by omega]
      rfl
    rw [List.getElem?_take_of_lt (by omega)] at this
    exact (bt_of_byte this).2
  · rintro ⟨hk, hb⟩
    refine ⟨s.data.toList.take (k - 1), ?_⟩
    have hg := byte_of_bt (b := 128) (by omega : k - 1 < s.size) hb
    have := List.take_add_one (l := s.data.toList) (i := k - 1)
    rw [show k - 1 + 1 = k by omega, hg] at this
    exact this.symm

theorem trim_mark {s : ByteArray} {k : Nat} (h : Trail s k) (hk : 0 < k) (hb : bt s (k - 1) = 128) : Lib.trimSuffix (s.data.toList.take k) [128] = s.data.toList.take (k - 1) := by
  have hle := h.le
  have hlen := Lib.size_eq s
  unfold Lib.trimSuffix
  rw [suffix_mark h, decide_eq_true ⟨hk, hb⟩, if_pos rfl, List.length_take, List.take_take]
  congr 1
  simp
  omega

end Go.Proofs.YtgjoppllhegkoaaDoor
