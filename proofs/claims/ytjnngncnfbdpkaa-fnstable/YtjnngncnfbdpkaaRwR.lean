/-
  The program's RowsMerged, first half: one map of tallies raised by another one. No condition but that the slices read.
-/
import Derived.Test.YtjnngncnfbdpkaaRwK
import Derived.Test.YtjnngncnfbdpkaaRwW
import Derived.Maps.RangeWalk
import Derived.Handy
import Derived.Deep.RegionLaw
import Derived.Deep.AppendLies
namespace Go.Proofs.Ytjnngncnfbdpkaa
open Go.RowKit Go.Maps
set_option linter.unusedVariables false

theorem rows_len {L : List Rw} : ∀ k, allB (okR L) k = true → (k : Int) ≤ lastW L k
  | 0, _ => Int.le_refl _
  | k + 1, h => by
    rw [allB_succ] at h
    simp only [Bool.and_eq_true] at h
    obtain ⟨h1, h2⟩ := h
    rw [okR_is h1] at h2
    simp only [Bool.and_eq_true, decide_eq_true_eq] at h2
    have := rows_len k h1
    show ((k + 1 : Nat) : Int) ≤ (L.getD k rwZ).who
    omega
theorem rowsB_len {L : List Rw} (h : rowsB L = true) : L.length ≤ 9 := by
  have h1 := rows_len L.length h
  have h2 := (rows_last L.length h).2.1
  omega
theorem isR_in {L : List Rw} (h : rowsB L = true) {z : Int} (hz : isR L z = true) : 1 ≤ z ∧ z ≤ 9 := by
  unfold isR lookR at hz
  rw [Option.isSome_map] at hz
  obtain ⟨x, hx⟩ := Option.isSome_iff_exists.1 hz
  have hm := List.mem_of_find?_eq_some hx
  have he : x.who = z := by simpa using List.find?_some hx
  obtain ⟨i, hi, rfl⟩ := List.getElem_of_mem hm
  have h1 := (rows_last L.length h).2.2 i hi
  have h2 := (rows_last L.length h).2.1
  have e : L.getD i rwZ = L[i] := by simp [hi]
  rw [e, he] at h1
  omega
theorem whoK_mem (A B : List Rw) (z : Int) : ∀ k, z ∈ whoK A B k ↔ (1 ≤ z ∧ z ≤ (k : Int)) ∧ mgIs A B z = true
  | 0 => by simp [whoK]; omega
  | k + 1 => by
    have ih := whoK_mem A B z k
    unfold whoK
    rw [List.mem_append, ih]
    by_cases hm : mgIs A B ((k : Int) + 1) = true
    · rw [if_pos hm, List.mem_singleton]
      constructor
      · rintro (h | rfl)
        · exact ⟨⟨h.1.1, by omega⟩, h.2⟩
        · exact ⟨⟨by omega, by omega⟩, hm⟩
      · rintro ⟨⟨h1, h2⟩, h3⟩
        by_cases hz : z = (k : Int) + 1
        · exact .inr hz
        · exact .inl ⟨⟨h1, by omega⟩, h3⟩
    · rw [if_neg hm]
      constructor
      · rintro (h | h)
        · exact ⟨⟨h.1.1, by omega⟩, h.2⟩
        · cases h
      · rintro ⟨⟨h1, h2⟩, h3⟩
        by_cases hz : z = (k : Int) + 1
        · exact absurd (hz ▸ h3) hm
        · exact .inl ⟨⟨h1, by omega⟩, h3⟩
theorem whoK_up (A B : List Rw) : ∀ k, UpI (whoK A B k)
  | 0 => List.Pairwise.nil
  | k + 1 => by
    unfold whoK
    refine List.pairwise_append.2 ⟨whoK_up A B k, ?_, fun x hx y hy => ?_⟩
    · split
      · exact List.pairwise_singleton _ _
      · exact List.Pairwise.nil
    · have h1 := ((whoK_mem A B x k).1 hx).1.2
      split at hy
      · rw [List.mem_singleton] at hy; omega
      · cases hy
theorem tl_lst (X : Nat → Int) : tlC (lst9 X) = arr9 X := by
  rw [tl_arr (lst9_len X)]
  refine arr9_ext fun i hi => ?_
  unfold lst9
  simp [hi]

/-- what the map holds of one while some are still left to be taken -/
def mgf (A B : List Rw) (left : Lit → Bool) (z : Int) : Option (List Int) := if (isR B z && !(left (.int .i64 z))) = true then some (lst9 (maxZ (fZ A z) (fZ B z))) else lookR A z
theorem mgf_all {A B : List Rw} {left : Lit → Bool} (h : ∀ z, left (.int .i64 z) = isR B z) (z : Int) : mgf A B left z = lookR A z := by
  unfold mgf
  rw [h z]
  cases isR B z <;> simp
theorem mgf_step {A B : List Rw} {left : Lit → Bool} {x : Int} (hx : isR B x = true) (z : Int) : (if x = z then some (lst9 (maxZ (fZ A x) (fZ B x))) else mgf A B left z) = mgf A B (fun l => left l && !l.sameKey (.int .i64 x)) z := by
  unfold mgf
  by_cases e : x = z
  · subst e
    have : (Lit.int .i64 x).sameKey (.int .i64 x) = true := by simp [Lit.sameKey]
    simp [this, hx]
  · have : (Lit.int .i64 z).sameKey (.int .i64 x) = false := by simp [Lit.sameKey]; omega
    simp [e, this]
theorem mgf_at {A B : List Rw} {left : Lit → Bool} {x : Int} (h : left (.int .i64 x) = true) : mgf A B left x = lookR A x := by
  unfold mgf
  rw [h]
  simp
/-- at the end -/
theorem mgf_end {A B : List Rw} {left : Lit → Bool} (h : ∀ l, left l = false) (z : Int) : (mgf A B left z).isSome = mgIs A B z := by
  unfold mgf mgIs isR
  rw [h]
  cases hb : (lookR B z).isSome <;> cases ha : (lookR A z).isSome <;> simp [ha]
theorem mgf_val {A B : List Rw} (hA : rowsB A = true) (hB : rowsB B = true) {left : Lit → Bool} (h : ∀ l, left l = false) {z : Int} (hz : mgIs A B z = true) : tlC ((mgf A B left z).getD z9) = arr9 (maxZ (fZ A z) (fZ B z)) := by
  unfold mgf
  rw [h]
  by_cases hb : isR B z = true
  · rw [hb]
    simp only [Bool.not_false, Bool.and_true, if_true, Option.getD_some]
    exact tl_lst _
  · rw [Bool.not_eq_true] at hb
    rw [hb]
    simp only [Bool.false_and, Bool.false_eq_true, if_false]
    show tlC (ofR A z) = _
    rw [tl_arr (csB_len (ofR_ok hA z))]
    refine arr9_ext fun i hi => ?_
    have h0 := (fZ_le hA z hi).1
    have e : fZ B z i = 0 := by
      unfold fZ ofR
      unfold isR at hb
      rw [Option.isSome_eq_false_iff, Option.isNone_iff_eq_none] at hb
      rw [hb]
      show z9.getD i 0 = 0
      have : ∀ i, i < 9 → z9.getD i 0 = 0 := by decide
      exact this i hi
    unfold maxZ
    rw [e]
    show fZ A z i = max (fZ A z i) 0
    omega
theorem keyI_inv (key : Value) (kl : Lit) (h : keyOf Try.prog 2 key = some kl) : ∃ x, key = Value.int .i64 x := by
  obtain ⟨x, rfl, _⟩ := Maps.keyOf_int_inv Try.underlying2 h
  exact ⟨x, rfl⟩
theorem keyI_lit {x : Int} {kl : Lit} (h : keyOf Try.prog 2 (Value.int .i64 x) = some kl) : kl = .int .i64 x ∧ (Lit.int .i64 x).wf = true := by
  obtain ⟨x', ex, rfl, hw⟩ := Maps.keyOf_int_inv Try.underlying2 h
  cases ex
  exact ⟨rfl, hw⟩
theorem VR_inv (v : Value) (y : DataW Value × List MemPlace) (h : VR v = some y) : ∃ c : Value, v = (fun c => c) c := ⟨v, rfl⟩
end Go.Proofs.Ytjnngncnfbdpkaa
