/-
  Who is alive, plainly: what the law of it wants. No condition.
-/
import Derived.Test.YtnjlegphohmajaaBtAl
import Derived.Test.YtnjlegphohmajaaBtN
import Derived.Test.YtnjlegphohmajaaHInt2
namespace Go.Proofs.Ytnjlegphohmajaa
open Go.RowKit
set_option linter.unusedVariables false

theorem listD_next (D : Nat → Ev) (k : Nat) : listD D (k + 1) = listD D k ++ [D k] := listD_succ D k
theorem prTo_list (D : Nat → Ev) (now : Int) : ∀ k, prTo D now k = (listD D k).filter (keepB now)
  | 0 => rfl
  | k + 1 => by
    rw [listD_next, List.filter_append, prTo, prTo_list D now k]
    by_cases h : keepB now (D k) = true
    · rw [if_pos h]; simp [h]
    · rw [if_neg h]; simp [h]
/-- one that is alive -/
def alB (t : Int) (x : Ev) : Bool := decide (x.c ≤ t) && keepB t x
theorem alTo_list (D : Nat → Ev) (now : Int) : ∀ k, alTo D now k = ((listD D k).filter (alB now)).map (·.a)
  | 0 => rfl
  | k + 1 => by
    rw [listD_next, List.filter_append, List.map_append, alTo, alTo_list D now k]
    by_cases h : (decide ((D k).c ≤ now) && keepB now (D k)) = true
    · rw [if_pos h]
      have h' : alB now (D k) = true := h
      simp [h']
    · rw [if_neg h]
      have h' : alB now (D k) = false := by simpa [alB] using h
      simp [h']
/-- the beats that are kept, of a list -/
theorem prR_L {A : List Ev} (hA : beatsL A = true) {now : Int} (hn : 0 ≤ now ∧ now ≤ 1000000) : prR (fun i => A.getD i evZ) A.length now = A.filter (keepB now) := by
  have hb : beatsB (fun i => A.getD i evZ) A.length = true := hA
  have hi : inB 0 1000000 now = true := by unfold inB; simp [hn.1, hn.2]
  unfold prR prB
  rw [hb, hi, prTo_list, listD_getD]
  rfl
theorem alR_L {A : List Ev} (hA : beatsL A = true) {now : Int} (hn : 0 ≤ now ∧ now ≤ 1000000) : alR (fun i => A.getD i evZ) A.length now = (A.filter (alB now)).map (·.a) := by
  have hb : beatsB (fun i => A.getD i evZ) A.length = true := hA
  have hi : inB 0 1000000 now = true := by unfold inB; simp [hn.1, hn.2]
  unfold alR prB
  rw [hb, hi, alTo_list, listD_getD]
  rfl
theorem allB_all {p : Nat → Bool} {n : Nat} (h : ∀ k, k < n → p k = true) : allB p n = true := by
  unfold allB
  rw [List.all_eq_true]
  intro x hx
  exact h x (List.mem_range.1 hx)
theorem beatsL_of {L : List Ev} (h1 : ∀ x ∈ L, x.fine = true) (h2 : UpB L) (h3 : L.length ≤ 12) : beatsL L = true := by
  unfold beatsL beatsB
  rw [decide_eq_true h3, Bool.true_and]
  refine allB_all fun k hk => ?_
  unfold okAt
  have e : (L.getD k evZ).fine = true := by rw [getD_get hk]; exact h1 _ (List.getElem_mem _)
  show ((L.getD k evZ).fine && (k == 0 || decide ((L.getD (k - 1) evZ).a < (L.getD k evZ).a))) = true
  rw [e, Bool.true_and]
  by_cases h0 : k = 0
  · simp [h0]
  · have := (List.pairwise_iff_getElem.1 h2) (k - 1) k (by omega) hk (by omega)
    rw [getD_get hk, getD_get (show k - 1 < L.length by omega), decide_eq_true this]
    simp
theorem filter_ok {A : List Ev} (hA : beatsL A = true) (p : Ev → Bool) : beatsL (A.filter p) = true :=
  beatsL_of (fun x hx => beatsL_fine hA x (List.mem_filter.1 hx).1) (List.Pairwise.filter _ (beatsL_up hA)) (Nat.le_trans (List.length_filter_le _ _) (beatsL_len hA))
theorem upB_inj {A : List Ev} (h : UpB A) {x y : Ev} (hx : x ∈ A) (hy : y ∈ A) (e : x.a = y.a) : x = y := by
  obtain ⟨i, hi, rfl⟩ := List.getElem_of_mem hx
  obtain ⟨j, hj, rfl⟩ := List.getElem_of_mem hy
  have hp := List.pairwise_iff_getElem.1 h
  rcases Nat.lt_trichotomy i j with hij | rfl | hij
  · have := hp i j hi hj hij; omega
  · rfl
  · have := hp j i hj hi hij; omega
/-- whether one is told to be alive -/
theorem hasI_alive {A : List Ev} (hA : UpB A) (now : Int) {x : Ev} (hx : x ∈ A) : hasI ((A.filter (alB now)).map (·.a)) x.a = alB now x := by
  cases h : alB now x with
  | true =>
    unfold hasI
    rw [List.any_eq_true]
    exact ⟨x.a, List.mem_map.2 ⟨x, List.mem_filter.2 ⟨hx, h⟩, rfl⟩, by simp⟩
  | false =>
    unfold hasI
    rw [List.any_eq_false]
    intro z hz hq
    obtain ⟨y, hy, rfl⟩ := List.mem_map.1 hz
    obtain ⟨h1, h2⟩ := List.mem_filter.1 hy
    have e : y = x := upB_inj hA h1 hx (by simpa using hq)
    rw [e, h] at h2
    cases h2
/-- to forget changes nothing, then and later -/
theorem alive_later {A : List Ev} (now t : Int) (h : now ≤ t) : ((A.filter (keepB now)).filter (alB t)).map (·.a) = (A.filter (alB t)).map (·.a) := by
  rw [List.filter_filter]
  congr 1
  refine List.filter_congr fun x _ => ?_
  cases hq : alB t x with
  | false => simp
  | true =>
    unfold alB keepB at hq
    simp at hq
    have : keepB now x = true := by unfold keepB; simp; omega
    rw [this]; rfl
theorem keep_again {A : List Ev} (now : Int) : (A.filter (keepB now)).filter (keepB now) = A.filter (keepB now) := by
  rw [List.filter_filter]
  refine List.filter_congr fun x _ => ?_
  simp
end Go.Proofs.Ytnjlegphohmajaa
