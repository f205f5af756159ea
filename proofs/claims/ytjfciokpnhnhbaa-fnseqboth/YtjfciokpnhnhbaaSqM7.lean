/-
  Which ids are shown, plainly: those of the inserts that nobody deleted, each once. No condition.
  Merging two sequences, plainly: whichever comes first, again, with itself. No condition.
-/
import Derived.Test.YtjfciokpnhnhbaaSqPd
import Derived.Test.YtjfciokpnhnhbaaSqM2
import Derived.Test.YtjfciokpnhnhbaaSqTu
namespace Go.Proofs.Ytjfciokpnhnhbaa
open Go.RowKit
set_option linter.unusedVariables false

theorem ord_tr {D : Nat → Ev} {n : Nat} (hok : allB (okS D) n = true) : ∀ z x y, x ∈ ord D n z → y ∈ kids D n x → y ∈ ord D n z := by
  refine down_ind (fun z ih => ?_)
  intro x y hx hy
  obtain ⟨k, hk, h⟩ := (ord_mem hok).1 hx
  refine (ord_mem hok).2 ⟨k, hk, ?_⟩
  rcases h with rfl | h
  · exact .inr ((ord_mem hok).2 ⟨y, hy, .inl rfl⟩)
  · have := kid_lt hok hk
    exact .inr (ih k this.1 this.2.2 x y h hy)
theorem ins_ord {D : Nat → Ev} {n : Nat} (hok : allB (okS D) n = true) : ∀ (m j : Nat), j < m → j < n → (D j).b = 1 → (D j).a ∈ ord D n 0 := by
  intro m
  induction m with
  | zero => intro j h; omega
  | succ m ih =>
    intro j _ hj hb
    have h1 := allB_at hok hj
    unfold okS kindB at h1
    rw [if_pos hb] at h1
    simp only [Bool.and_eq_true, Bool.or_eq_true, beq_iff_eq] at h1
    have hk := kid_of hj hb
    rcases h1.2.2 with h0 | h0
    · rw [h0] at hk
      exact (ord_mem hok).2 ⟨_, hk, .inl rfl⟩
    · obtain ⟨i, hi, hib, hia⟩ := insB_iff.1 h0
      have := ih i (by omega) (by omega) hib
      rw [hia] at this
      exact ord_tr hok 0 _ _ this hk
theorem ids_mem {D : Nat → Ev} {n : Nat} (hs : seqB D n = true) {y : Int} : y ∈ idsR D n ↔ insB D n y = true ∧ delB D n y = false := by
  have hok := (seqB_parts hs).2
  rw [idsR_yes hs]
  constructor
  · intro h
    have h1 := List.mem_filter.1 h
    exact ⟨(ord_gt hok 0 y h1.1).2, by simpa using h1.2⟩
  · rintro ⟨h1, h2⟩
    obtain ⟨j, hj, hb, rfl⟩ := insB_iff.1 h1
    exact List.mem_filter.2 ⟨ins_ord hok n j hj hj hb, by rw [h2]; rfl⟩
/-- the ops among the first i that are inserts and were not deleted -/
def livL (D : Nat → Ev) (n i : Nat) : List Int := ((List.range i).filter fun j => (D j).b == 1 && !(delB D n (D j).a)).map fun j => (D j).a
theorem livL_succ (D : Nat → Ev) (n i : Nat) : livL D n (i + 1) = livL D n i ++ (if ((D i).b == 1 && !(delB D n (D i).a)) = true then [(D i).a] else []) := by
  unfold livL
  rw [List.range_succ, List.filter_append, List.map_append]
  congr 1
  by_cases h : ((D i).b == 1 && !(delB D n (D i).a)) = true
  · rw [if_pos h, List.filter_cons_of_pos (p := fun j => (D j).b == 1 && !(delB D n (D j).a)) h]
    rfl
  · rw [if_neg h, List.filter_cons_of_neg (p := fun j => (D j).b == 1 && !(delB D n (D j).a)) h]
    rfl
theorem livL_mem {D : Nat → Ev} {n : Nat} (hs : seqB D n = true) {y : Int} : y ∈ livL D n n ↔ y ∈ idsR D n := by
  rw [ids_mem hs]
  unfold livL
  constructor
  · intro h
    obtain ⟨j, hj, rfl⟩ := List.mem_map.1 h
    have h1 := List.mem_filter.1 hj
    have h2 := h1.2
    simp only [Bool.and_eq_true, beq_iff_eq, Bool.not_eq_true'] at h2
    exact ⟨insB_iff.2 ⟨j, List.mem_range.1 h1.1, h2.1, rfl⟩, h2.2⟩
  · rintro ⟨h1, h2⟩
    obtain ⟨j, hj, hb, rfl⟩ := insB_iff.1 h1
    exact List.mem_map.2 ⟨j, List.mem_filter.2 ⟨List.mem_range.2 hj, by simp [hb, h2]⟩, rfl⟩
theorem livL_nodup {D : Nat → Ev} {n : Nat} (hok : allB (okS D) n = true) : ∀ i, i ≤ n → (livL D n i).Nodup := by
  intro i
  induction i with
  | zero => intro _; exact List.nodup_nil
  | succ i ih =>
    intro hi
    rw [livL_succ]
    split
    · refine List.nodup_append.2 ⟨ih (by omega), by simp, ?_⟩
      intro x hx y hy e
      have hy' : y = (D i).a := by simpa using hy
      rw [hy'] at e
      subst e
      unfold livL at hx
      obtain ⟨j, hj, e⟩ := List.mem_map.1 hx
      have h1 := List.mem_range.1 ((List.mem_filter.1 hj).1)
      have := rise_inj hok (show j < n by omega) (show i < n by omega) e
      omega
    · rw [List.append_nil]
      exact ih (by omega)
theorem livL_len {D : Nat → Ev} {n : Nat} (hs : seqB D n = true) : (livL D n n).length = (idsR D n).length := by
  have hn := livL_nodup (seqB_parts hs).2 n (Nat.le_refl _)
  exact Nat.le_antisymm (len_le _ _ hn (fun x hx => (livL_mem hs).1 hx)) (len_le _ _ (idsR_nodup hs) (fun x hx => (livL_mem hs).2 hx))
/-- the sign at the place of a shown id -/
theorem text_sign {D : Nat → Ev} {n k i : Nat} (hs : seqB D n = true) (hk : k < (idsR D n).length) (hi : i < n) (h : (idsR D n).getD k 0 = (D i).a) : (textR D n).extract k (k + 1) = (D i).d := by
  have h0 := text_left hs (show k ≤ (idsR D n).length by omega)
  have h1 := text_left hs (show k + 1 ≤ (idsR D n).length by omega)
  rw [textOf_take D n (idsR D n) hk, ← h0, h, (sgn_at (seqB_parts hs).2 hi).1] at h1
  have hsz : ((textR D n).extract 0 k).size = k := by rw [ByteArray.size_extract, text_size hs]; omega
  have h2 : ((textR D n).extract 0 (k + 1)).extract k (k + 1) = (textR D n).extract k (k + 1) := by
    rw [ByteArray.extract_extract]
    congr 1 <;> omega
  rw [← h2, h1]
  have hd : (D i).d.size = 1 := by
    have hin : insB D n ((idsR D n).getD k 0) = true := (idsR_ins (by simp [List.getD, hk])).1
    rw [h] at hin
    have := sgn_one (seqB_parts hs).2 hin
    rw [(sgn_at (seqB_parts hs).2 hi).1] at this
    exact this
  exact ByteArray.extract_append_eq_right hsz.symm (by rw [hsz, hd])
end Go.Proofs.Ytjfciokpnhnhbaa

namespace Go.Proofs.Ytjfciokpnhnhbaa
open Go.RowKit
set_option linter.unusedVariables false

theorem okB_agr {A B : List Ev} (h : Agr (A ++ B)) {y : Ev} (hy : y ∈ B) : okB A y = true := by
  cases hf : firstA (fun i => A.getD i evZ) y.a A.length with
  | none => exact okB_none hf
  | some j =>
    obtain ⟨hj, he⟩ := firstA_some hf
    have hm : A.getD j evZ ∈ A := by rw [List.getD_eq_getElem?_getD, List.getElem?_eq_getElem hj]; simp
    have := h _ (List.mem_append_left _ hm) _ (List.mem_append_right _ hy) he
    rw [okB_some hf, this]
    exact Ev.same_refl _
theorem agr_okB {A B : List Ev} (hA : UpS A) (hB : UpS B) (h : ∀ y ∈ B, okB A y = true) : Agr (A ++ B) := by
  have hAB : ∀ x ∈ A, ∀ y ∈ B, x.a = y.a → x = y := by
    intro x hx y hy he
    have hk := h y hy
    cases hf : firstA (fun i => A.getD i evZ) y.a A.length with
    | none =>
      obtain ⟨i, hi, rfl⟩ := List.getElem_of_mem hx
      exact absurd (by simpa [List.getD_eq_getElem?_getD, hi] using he) (firstA_none hf i hi)
    | some j =>
      rw [okB_some hf] at hk
      have e := same_eq hk
      obtain ⟨hj, he2⟩ := firstA_some hf
      have hm : A.getD j evZ ∈ A := by rw [List.getD_eq_getElem?_getD, List.getElem?_eq_getElem hj]; simp
      rw [← e] at he ⊢
      exact hA.agr x hx _ hm he
  intro x hx y hy he
  rcases List.mem_append.1 hx with h1 | h1 <;> rcases List.mem_append.1 hy with h2 | h2
  · exact hA.agr x h1 y h2 he
  · exact hAB x h1 y h2 he
  · exact (hAB y h2 x h1 he.symm).symm
  · exact hB.agr x h1 y h2 he
theorem mergedB_iff {A B : List Ev} : mergedB A B = true ↔ seqL A = true ∧ seqL B = true ∧ Agr (A ++ B) ∧ seqL (mergeS A B) = true := by
  unfold mergedB
  simp only [Bool.and_eq_true]
  constructor
  · rintro ⟨h1, h2, h3, h4⟩
    refine ⟨h1, h2, agr_okB (seqL_up h1) (seqL_up h2) (fun y hy => ?_), h4⟩
    obtain ⟨i, hi, rfl⟩ := List.getElem_of_mem hy
    have := allB_at h3 hi
    simpa [List.getD_eq_getElem?_getD, hi] using this
  · rintro ⟨h1, h2, h3, h4⟩
    refine ⟨h1, h2, ?_, h4⟩
    unfold allB
    rw [List.all_eq_true]
    intro i hi
    have hi := List.mem_range.1 hi
    exact okB_agr h3 (by rw [List.getD_eq_getElem?_getD, List.getElem?_eq_getElem hi]; simp)
theorem Agr.swap {A B : List Ev} (h : Agr (A ++ B)) : Agr (B ++ A) := h.sub (fun x hx => by rw [List.mem_append] at hx ⊢; exact hx.symm)
theorem mergeS_comm {A B : List Ev} (hA : UpS A) (hB : UpS B) (h : Agr (A ++ B)) : mergeS B A = mergeS A B :=
  upS_unique (mergeS_up B hB A) (mergeS_up A hA B) (fun x => by rw [mergeS_iff x A B h.swap, mergeS_iff x B A h]; exact or_comm)
theorem mergedB_sym {A B : List Ev} (h : mergedB A B = true) : mergedB B A = true ∧ mergeS B A = mergeS A B := by
  obtain ⟨h1, h2, h3, h4⟩ := mergedB_iff.1 h
  have e := mergeS_comm (seqL_up h1) (seqL_up h2) h3
  exact ⟨mergedB_iff.2 ⟨h2, h1, h3.swap, by rw [e]; exact h4⟩, e⟩
theorem mergedB_comm (A B : List Ev) : mergedB B A = mergedB A B := by
  cases h : mergedB A B with
  | true => exact (mergedB_sym h).1
  | false =>
    cases h' : mergedB B A with
    | false => rfl
    | true => rw [(mergedB_sym h').1] at h; cases h
theorem merged_mem {A B : List Ev} (h : mergedB A B = true) {x : Ev} : x ∈ mergeS A B ↔ x ∈ A ∨ x ∈ B := mergeS_iff x B A (mergedB_iff.1 h).2.2.1
theorem mergedB_again {A B : List Ev} (h : mergedB A B = true) : mergedB (mergeS A B) B = true ∧ mergeS (mergeS A B) B = mergeS A B := by
  obtain ⟨h1, h2, h3, h4⟩ := mergedB_iff.1 h
  have hag : Agr (mergeS A B ++ B) := h3.sub (fun x hx => by
    rcases List.mem_append.1 hx with hx | hx
    · exact List.mem_append.2 ((merged_mem h).1 hx)
    · exact List.mem_append_right _ hx)
  have e : mergeS (mergeS A B) B = mergeS A B := upS_unique (mergeS_up _ (seqL_up h4) B) (seqL_up h4) (fun x => by
    rw [mergeS_iff x B _ hag]
    exact ⟨fun hx => hx.elim id (fun hx => (merged_mem h).2 (.inr hx)), .inl⟩)
  exact ⟨mergedB_iff.2 ⟨h4, h2, hag, by rw [e]; exact h4⟩, e⟩
theorem mergedB_self {A : List Ev} (h : seqL A = true) : mergedB A A = true ∧ mergeS A A = A := by
  have hu := seqL_up h
  have hag : Agr (A ++ A) := hu.agr.sub (fun x hx => (List.mem_append.1 hx).elim id id)
  have e : mergeS A A = A := upS_unique (mergeS_up A hu A) hu (fun x => by
    rw [mergeS_iff x A A hag]
    exact ⟨fun hx => hx.elim id id, .inl⟩)
  exact ⟨mergedB_iff.2 ⟨h, h, hag, by rw [e]; exact h⟩, e⟩
/-- the list that a merging answers -/
def resM (A B : List Ev) : List Ev := if mergedB A B = true then mergeS A B else []
theorem GaveV.res {w : World} {base : Nat} {A B : List Ev} {v : Value} (h : GaveV w base (mergedB A B) (mergeS A B) v) : OwnV w base v (resM A B) := by
  unfold resM
  rcases h with ⟨h, rfl⟩ | ⟨h, ho⟩
  · rw [h]; exact OwnV.nil _ _
  · rw [h]; exact ho
theorem resM_comm (A B : List Ev) : resM B A = resM A B := by
  unfold resM
  rw [mergedB_comm]
  split
  · rename_i h
    exact (mergedB_sym h).2
  · rfl
theorem mergeS_nil {A B : List Ev} (h : mergedB A B = true) (hn : mergeS A B = []) : A = [] ∧ B = [] := by
  constructor
  · cases hA : A with
    | nil => rfl
    | cons x l =>
      have : x ∈ mergeS A B := (merged_mem h).2 (.inl (by rw [hA]; exact List.mem_cons_self))
      rw [hn] at this
      cases this
  · cases hB : B with
    | nil => rfl
    | cons x l =>
      have : x ∈ mergeS A B := (merged_mem h).2 (.inr (by rw [hB]; exact List.mem_cons_self))
      rw [hn] at this
      cases this
end Go.Proofs.Ytjfciokpnhnhbaa
