/-
  Rows merged, plainly: in whatever order, again, with itself; what all have of more rows. Condition: the rows are right.
-/
import Derived.Test.YtjnngncnfbdpkaaRwR
namespace Go.Proofs.Ytjnngncnfbdpkaa
open Go.RowKit Go.Maps
set_option linter.unusedVariables false

theorem lst9_ext {X Y : Nat → Int} (h : ∀ i, i < 9 → X i = Y i) : lst9 X = lst9 Y := List.map_congr_left fun i hi => h i (List.mem_range.1 hi)
theorem lst9_at (X : Nat → Int) {i : Nat} (h : i < 9) : (lst9 X).getD i 0 = X i := by unfold lst9; simp [h]
theorem lst9_self {cs : List Int} (h : cs.length = 9) : lst9 (fun i => cs.getD i 0) = cs := by
  apply List.ext_getElem
  · rw [lst9_len, h]
  · intro i h1 h2
    unfold lst9
    simp [h2]
theorem maxZ_comm (X Y : Nat → Int) : maxZ X Y = maxZ Y X := funext fun i => by unfold maxZ; omega
theorem mgIs_comm (A B : List Rw) (z : Int) : mgIs A B z = mgIs B A z := by unfold mgIs; exact Bool.or_comm _ _
theorem mgRow_comm (A B : List Rw) (z : Int) : mgRow A B z = mgRow B A z := by unfold mgRow; rw [maxZ_comm]
theorem whoK_congr {A B C D : List Rw} (h : ∀ z, mgIs A B z = mgIs C D z) : ∀ k, whoK A B k = whoK C D k
  | 0 => rfl
  | k + 1 => by unfold whoK; rw [whoK_congr h k, h]
theorem mgR_comm (A B : List Rw) : mgR A B = mgR B A := by
  unfold mgR mgK
  rw [Bool.and_comm, whoK_congr (mgIs_comm A B) 9, funext (mgRow_comm A B)]

theorem allB_pre {p : Nat → Bool} {n k : Nat} (h : allB p n = true) (hk : k < n) : allB p k = true := by
  unfold allB at h ⊢
  rw [List.all_eq_true] at h ⊢
  exact fun i hi => h i (List.mem_range.2 (by have := List.mem_range.1 hi; omega))
/-- right rows, by what they are -/
theorem rowsB_of {L : List Rw} (hu : L.Pairwise fun x y => x.who < y.who) (h : ∀ x ∈ L, 1 ≤ x.who ∧ x.who ≤ 9 ∧ csB x.cs = true) : rowsB L = true := by
  unfold rowsB allB
  rw [List.all_eq_true]
  intro i hi
  have hi := List.mem_range.1 hi
  have e : L.getD i rwZ = L[i] := by simp [hi]
  obtain ⟨h1, h2, h3⟩ := h L[i] (List.getElem_mem _)
  unfold okR inB
  rw [e, h3, decide_eq_true h1, decide_eq_true h2]
  cases i with
  | zero => rfl
  | succ j =>
    have e2 : L.getD j rwZ = L[j] := by simp [show j < L.length by omega]
    have := List.pairwise_iff_getElem.1 hu j (j + 1) (by omega) hi (by omega)
    simp only [Nat.add_sub_cancel, e2, decide_eq_true this, Bool.or_true, Bool.and_true]
theorem rowsB_up {L : List Rw} (h : rowsB L = true) : (L.map (·.who)).Pairwise fun x y => x < y := by
  refine List.pairwise_iff_getElem.2 fun i j hi hj hij => ?_
  rw [List.length_map] at hi hj
  have hl := (rows_last j (allB_pre h hj)).2.2 i hij
  have ok := allB_at h hj
  rw [okR_is (allB_pre h hj)] at ok
  simp only [Bool.and_eq_true, decide_eq_true_eq] at ok
  have e1 : L.getD i rwZ = L[i] := by simp [hi]
  have e2 : L.getD j rwZ = L[j] := by simp [hj]
  rw [e1] at hl
  rw [e2] at ok
  simp only [List.getElem_map]
  omega
theorem mem_who {L : List Rw} (z : Int) : z ∈ L.map (·.who) ↔ isR L z = true := by
  unfold isR lookR
  rw [Option.isSome_map, List.find?_isSome, List.mem_map]
  constructor
  · rintro ⟨x, hx, rfl⟩; exact ⟨x, hx, by simp⟩
  · rintro ⟨x, hx, e⟩; exact ⟨x, hx, by simpa using e⟩
theorem lst9_csB {X : Nat → Int} (h : ∀ i, i < 9 → 0 ≤ X i ∧ X i ≤ 1000000) : csB (lst9 X) = true := by
  unfold csB allB
  rw [lst9_len]
  simp only [decide_true, Bool.true_and, List.all_eq_true]
  intro i hi
  have hi := List.mem_range.1 hi
  unfold cAt inB
  rw [lst9_at X hi, decide_eq_true (h i hi).1, decide_eq_true (h i hi).2]
  rfl
theorem lookR_map (l : List Int) (f : Int → List Int) (z : Int) : lookR (l.map fun x => (⟨x, f x⟩ : Rw)) z = if z ∈ l then some (f z) else none := by
  induction l with
  | nil => rfl
  | cons x l ih =>
    unfold lookR at ih ⊢
    rw [List.map_cons, List.find?_cons]
    by_cases e : x = z
    · subst e; simp
    · have : ((⟨x, f x⟩ : Rw).who == z) = false := by simpa using e
      rw [this]
      dsimp only
      rw [ih]
      have e2 : ¬ z = x := fun q => e q.symm
      simp [e2]
section
variable {A B : List Rw} (hA : rowsB A = true) (hB : rowsB B = true)
theorem mgR_is (hA : rowsB A = true) (hB : rowsB B = true) : mgR A B = (whoK A B 9).map fun z => (⟨z, lst9 (maxZ (fZ A z) (fZ B z))⟩ : Rw) := by unfold mgR; rw [hA, hB]; rfl
theorem mgR_ok (hA : rowsB A = true) (hB : rowsB B = true) : rowsB (mgR A B) = true := by
  rw [mgR_is hA hB]
  refine rowsB_of (List.pairwise_map.2 (whoK_up A B 9)) fun x hx => ?_
  obtain ⟨z, hz, rfl⟩ := List.mem_map.1 hx
  have h1 := ((whoK_mem A B z 9).1 hz).1
  refine ⟨h1.1, h1.2, lst9_csB fun i hi => ?_⟩
  have := fZ_le hA z hi
  have := fZ_le hB z hi
  unfold maxZ
  omega
theorem mgR_isR (hA : rowsB A = true) (hB : rowsB B = true) (z : Int) : isR (mgR A B) z = mgIs A B z := by
  have hm := whoK_mem A B z 9
  unfold isR
  rw [mgR_is hA hB, lookR_map _ (fun z => lst9 (maxZ (fZ A z) (fZ B z)))]
  cases hq : mgIs A B z with
  | false =>
    rw [if_neg (fun h => by rw [hm, hq] at h; exact absurd h.2 (by decide))]
    rfl
  | true =>
    have hin : 1 ≤ z ∧ z ≤ 9 := by
      unfold mgIs at hq
      rw [Bool.or_eq_true] at hq
      rcases hq with h | h
      · exact isR_in hA h
      · exact isR_in hB h
    rw [if_pos (hm.2 ⟨hin, hq⟩)]
    rfl
theorem fZ_no {L : List Rw} {z : Int} (h : isR L z = false) {i : Nat} (hi : i < 9) : fZ L z i = 0 := by
  unfold fZ ofR
  unfold isR at h
  rw [Option.isSome_eq_false_iff, Option.isNone_iff_eq_none] at h
  rw [h]
  show z9.getD i 0 = 0
  have : ∀ i, i < 9 → z9.getD i 0 = 0 := by decide
  exact this i hi
theorem mgR_fZ (hA : rowsB A = true) (hB : rowsB B = true) (z : Int) {i : Nat} (hi : i < 9) : fZ (mgR A B) z i = maxZ (fZ A z) (fZ B z) i := by
  cases hq : mgIs A B z with
  | false =>
    have h0 : isR (mgR A B) z = false := by rw [mgR_isR hA hB]; exact hq
    unfold mgIs at hq
    rw [Bool.or_eq_false_iff] at hq
    rw [fZ_no h0 hi]
    unfold maxZ
    rw [fZ_no hq.1 hi, fZ_no hq.2 hi]
    rfl
  | true =>
    have h1 : isR (mgR A B) z = true := by rw [mgR_isR hA hB]; exact hq
    unfold isR at h1
    have hlk : lookR (mgR A B) z = some (lst9 (maxZ (fZ A z) (fZ B z))) := by
      rw [mgR_is hA hB, lookR_map _ (fun z => lst9 (maxZ (fZ A z) (fZ B z)))] at h1 ⊢
      split at h1
      · rw [if_pos (by assumption)]
      · cases h1
    unfold fZ ofR
    rw [hlk]
    exact lst9_at _ hi
theorem mgR_again (hA : rowsB A = true) (hB : rowsB B = true) : mgR (mgR A B) B = mgR A B := by
  rw [mgR_is (mgR_ok hA hB) hB]
  conv => rhs; rw [mgR_is hA hB]
  have hw : ∀ k, whoK (mgR A B) B k = whoK A B k := whoK_congr fun z => by
    show (isR (mgR A B) z || isR B z) = mgIs A B z
    rw [mgR_isR hA hB]
    unfold mgIs
    cases isR A z <;> cases isR B z <;> rfl
  rw [hw]
  refine List.map_congr_left fun z _ => ?_
  congr 1
  refine lst9_ext fun i hi => ?_
  unfold maxZ
  rw [mgR_fZ hA hB z hi]
  unfold maxZ
  omega
theorem mgR_self (hA : rowsB A = true) : mgR A A = A := by
  rw [mgR_is hA hA]
  have hw : whoK A A 9 = A.map (·.who) := upI_unique (whoK_up A A 9) (rowsB_up hA) fun z => by
    rw [whoK_mem, mem_who]
    unfold mgIs
    rw [Bool.or_self]
    exact ⟨fun h => h.2, fun h => ⟨isR_in hA h, h⟩⟩
  rw [hw, List.map_map]
  conv => rhs; rw [← List.map_id A]
  refine List.map_congr_left fun x hx => ?_
  show (⟨x.who, lst9 (maxZ (fZ A x.who) (fZ A x.who))⟩ : Rw) = x
  have hlk : lookR A x.who = some x.cs := by
    obtain ⟨k, hk, rfl⟩ := List.getElem_of_mem hx
    have e : A.getD k rwZ = A[k] := by simp [hk]
    have := lookR_yes (z := A[k].who) hk (fun j hj => by
      have hp := List.pairwise_iff_getElem.1 (rowsB_up hA) j k (by rw [List.length_map]; omega) (by rw [List.length_map]; exact hk) hj
      simp only [List.getElem_map] at hp
      have e2 : A.getD j rwZ = A[j] := by simp [show j < A.length by omega]
      rw [e2]
      omega) (by rw [e])
    rw [e] at this
    exact this
  have hc := csB_len (rowsB_cs hA hx)
  have e : lst9 (maxZ (fZ A x.who) (fZ A x.who)) = x.cs := by
    refine (lst9_ext fun i hi => ?_).trans (lst9_self hc)
    unfold maxZ fZ ofR
    rw [hlk]
    show max _ _ = _
    rw [Int.max_self]
    rfl
  rw [e]
end

/-- what all have is no more than what any one has -/
theorem stT_one_le (L : List Rw) (who : List Int) (k : Nat) : ∀ j, j ≤ who.length → ∀ i, i < j → stT L who j k ≤ fZ L (who.getD i 0) k
  | 0, _, i, hi => absurd hi (Nat.not_lt_zero _)
  | j + 1, hj, i, hi => by
    rw [stT_succ L who (by omega)]
    by_cases e : i = j
    · subst e; omega
    · have := stT_one_le L who k j (by omega) i (by omega)
      omega
theorem stT_mono {L M : List Rw} (who : List Int) {k : Nat} (h : ∀ z, fZ L z k ≤ fZ M z k) : ∀ j, j ≤ who.length → stT L who j k ≤ stT M who j k
  | 0, _ => Int.le_refl _
  | j + 1, hj => by
    rw [stT_succ L who (by omega), stT_succ M who (by omega)]
    have := stT_mono who h j (by omega)
    have := h (who.getD j 0)
    omega
end Go.Proofs.Ytjnngncnfbdpkaa
