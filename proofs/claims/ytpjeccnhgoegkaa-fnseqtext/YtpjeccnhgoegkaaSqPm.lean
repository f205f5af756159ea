/-
  Which ids are shown, plainly: those of the inserts that nobody deleted, each once. No condition.
-/
import Derived.Test.YtpjeccnhgoegkaaSqPd
namespace Go.Proofs.Ytpjeccnhgoegkaa
open Go.RowKit
set_option linter.unusedVariables false

theorem ord_tr {D : Nat → Ev} {n : Nat} (hok : allB (okS D) n = true) : ∀ z x y, x ∈ ord D n z → y ∈ kids D n x → y ∈ ord D n z := by
  refine down_ind (fun z ih => ?_)
  intro x y hx hy
  obtain ⟨k, hk, h⟩ := (ord_mem hok).1 hx
  refine (ord_mem hok).2 ⟨k, hk, ?_⟩
  rcases h with rfl | h
  · exact .inr ((ord_mem hok).2 ⟨y, hy, .inl rfl⟩)
  · have := kid_lt hok hk
    exact .inr (ih k this.1 this.2.2 x y h hy)
theorem ins_ord {D : Nat → Ev} {n : Nat} (hok : allB (okS D) n = true) : ∀ (m j : Nat), j < m → j < n → (D j).b = 1 → (D j).a ∈ ord D n 0 := by
  intro m
  induction m with
  | zero => intro j h; omega
  | succ m ih =>
    intro j _ hj hb
    have h1 := allB_at hok hj
    unfold okS kindB at h1
    rw [if_pos hb] at h1
    simp only [Bool.and_eq_true, Bool.or_eq_true, beq_iff_eq] at h1
    have hk := kid_of hj hb
    rcases h1.2.2 with h0 | h0
    · rw [h0] at hk
      exact (ord_mem hok).2 ⟨_, hk, .inl rfl⟩
    · obtain ⟨i, hi, hib, hia⟩ := insB_iff.1 h0
      have := ih i (by omega) (by omega) hib
      rw [hia] at this
      exact ord_tr hok 0 _ _ this hk
theorem ids_mem {D : Nat → Ev} {n : Nat} (hs : seqB D n = true) {y : Int} : y ∈ idsR D n ↔ insB D n y = true ∧ delB D n y = false := by
  have hok := (seqB_parts hs).2
  rw [idsR_yes hs]
  constructor
  · intro h
    have h1 := List.mem_filter.1 h
    exact ⟨(ord_gt hok 0 y h1.1).2, by simpa using h1.2⟩
  · rintro ⟨h1, h2⟩
    obtain ⟨j, hj, hb, rfl⟩ := insB_iff.1 h1
    exact List.mem_filter.2 ⟨ins_ord hok n j hj hj hb, by rw [h2]; rfl⟩
/-- the ops among the first i that are inserts and were not deleted -/
def livL (D : Nat → Ev) (n i : Nat) : List Int := ((List.range i).filter fun j => (D j).b == 1 && !(delB D n (D j).a)).map fun j => (D j).a
theorem livL_succ (D : Nat → Ev) (n i : Nat) : livL D n (i + 1) = livL D n i ++ (if ((D i).b == 1 && !(delB D n (D i).a)) = true then [(D i).a] else []) := by
  unfold livL
  rw [List.range_succ, List.filter_append, List.map_append]
  congr 1
  by_cases h : ((D i).b == 1 && !(delB D n (D i).a)) = true
  · rw [if_pos h, List.filter_cons_of_pos (p := fun j => (D j).b == 1 && !(delB D n (D j).a)) h]
    rfl
  · rw [if_neg h, List.filter_cons_of_neg (p := fun j => (D j).b == 1 && !(delB D n (D j).a)) h]
    rfl
theorem livL_mem {D : Nat → Ev} {n : Nat} (hs : seqB D n = true) {y : Int} : y ∈ livL D n n ↔ y ∈ idsR D n := by
  rw [ids_mem hs]
  unfold livL
  constructor
  · intro h
    obtain ⟨j, hj, rfl⟩ := List.mem_map.1 h
    have h1 := List.mem_filter.1 hj
    have h2 := h1.2
    simp only [Bool.and_eq_true, beq_iff_eq, Bool.not_eq_true'] at h2
    exact ⟨insB_iff.2 ⟨j, List.mem_range.1 h1.1, h2.1, rfl⟩, h2.2⟩
  · rintro ⟨h1, h2⟩
    obtain ⟨j, hj, hb, rfl⟩ := insB_iff.1 h1
    exact List.mem_map.2 ⟨j, List.mem_filter.2 ⟨List.mem_range.2 hj, by simp [hb, h2]⟩, rfl⟩
theorem livL_nodup {D : Nat → Ev} {n : Nat} (hok : allB (okS D) n = true) : ∀ i, i ≤ n → (livL D n i).Nodup := by
  intro i
  induction i with
  | zero => intro _; exact List.nodup_nil
  | succ i ih =>
    intro hi
    rw [livL_succ]
    split
    · refine List.nodup_append.2 ⟨ih (by omega), by simp, ?_⟩
      intro x hx y hy e
      have hy' : y = (D i).a := by simpa using hy
      rw [hy'] at e
      subst e
      unfold livL at hx
      obtain ⟨j, hj, e⟩ := List.mem_map.1 hx
      have h1 := List.mem_range.1 ((List.mem_filter.1 hj).1)
      have := rise_inj hok (show j < n by omega) (show i < n by omega) e
      omega
    · rw [List.append_nil]
      exact ih (by omega)
theorem livL_len {D : Nat → Ev} {n : Nat} (hs : seqB D n = true) : (livL D n n).length = (idsR D n).length := by
  have hn := livL_nodup (seqB_parts hs).2 n (Nat.le_refl _)
  exact Nat.le_antisymm (len_le _ _ hn (fun x hx => (livL_mem hs).1 hx)) (len_le _ _ (idsR_nodup hs) (fun x hx => (livL_mem hs).2 hx))
/-- the sign at the place of a shown id -/
theorem text_sign {D : Nat → Ev} {n k i : Nat} (hs : seqB D n = true) (hk : k < (idsR D n).length) (hi : i < n) (h : (idsR D n).getD k 0 = (D i).a) : (textR D n).extract k (k + 1) = (D i).d := by
  have h0 := text_left hs (show k ≤ (idsR D n).length by omega)
  have h1 := text_left hs (show k + 1 ≤ (idsR D n).length by omega)
  rw [textOf_take D n (idsR D n) hk, ← h0, h, (sgn_at (seqB_parts hs).2 hi).1] at h1
  have hsz : ((textR D n).extract 0 k).size = k := by rw [ByteArray.size_extract, text_size hs]; omega
  have h2 : ((textR D n).extract 0 (k + 1)).extract k (k + 1) = (textR D n).extract k (k + 1) := by
    rw [ByteArray.extract_extract]
    congr 1 <;> omega
  rw [← h2, h1]
  have hd : (D i).d.size = 1 := by
    have hin : insB D n ((idsR D n).getD k 0) = true := (idsR_ins (by simp [List.getD, hk])).1
    rw [h] at hin
    have := sgn_one (seqB_parts hs).2 hin
    rw [(sgn_at (seqB_parts hs).2 hi).1] at this
    exact this
  exact ByteArray.extract_append_eq_right hsz.symm (by rw [hsz, hd])
end Go.Proofs.Ytpjeccnhgoegkaa
