/-
  What can be made, plainly: it gives nothing more to who learns it; and what is known behind a learning. No condition.
-/
import Derived.Test.YtpcbhjejpebogaaGreatDoorThE
import Derived.Test.YtpcbhjejpebogaaGreatDoorThL
namespace Go.Proofs.YtpcbhjejpebogaaGreatDoor
open Go.RowKit Go.Maps
set_option linter.unusedVariables false

theorem MkT.base {P : Tr → Prop} : ∀ {t : Tr}, P t → MkT P t
  | ⟨.inl (k, n)⟩, h => by rw [MkT]; exact .inl h
  | ⟨.inr (.inl u)⟩, h => by rw [MkT]; exact .inl h
  | ⟨.inr (.inr (.inl (a, b)))⟩, h => by rw [MkT]; exact .inl h
  | ⟨.inr (.inr (.inr (k, n, a)))⟩, h => by rw [MkT]; exact .inl h
theorem MkT.key {P : Tr → Prop} {n : Nat} : MkT P (keyT n) ↔ P (keyT n) := by
  unfold keyT
  rw [MkT]
  exact ⟨fun h => h.elim id (fun h => absurd rfl h), .inl⟩
theorem MkT.congr {P Q : Tr → Prop} (h : ∀ u, Fit u → (P u ↔ Q u)) : ∀ t : Tr, Fit t → (MkT P t ↔ MkT Q t)
  | ⟨.inl (k, n)⟩, hf => by rw [MkT, MkT, h _ hf]
  | ⟨.inr (.inl u)⟩, hf => by rw [MkT, MkT, h _ hf, MkT.congr h u (hf.kid (by simp [Tr.kids]))]
  | ⟨.inr (.inr (.inl (a, b)))⟩, hf => by rw [MkT, MkT, h _ hf, MkT.congr h a (hf.kid (by simp [Tr.kids])), MkT.congr h b (hf.kid (by simp [Tr.kids]))]
  | ⟨.inr (.inr (.inr (k, n, a)))⟩, hf => by rw [MkT, MkT, h _ hf, MkT.congr h a (hf.kid (by simp [Tr.kids])), h _ (fitKey hf.1.2.1)]
theorem MkT.trans {P Q : Tr → Prop} (h : ∀ u, P u → MkT Q u) : ∀ t : Tr, MkT P t → MkT Q t
  | ⟨.inl (k, n)⟩, ht => by
    rw [MkT] at ht
    rcases ht with h1 | h1
    · exact h _ h1
    · rw [MkT]; exact .inr h1
  | ⟨.inr (.inl u)⟩, ht => by
    rw [MkT] at ht
    rcases ht with h1 | h1
    · exact h _ h1
    · rw [MkT]; exact .inr (MkT.trans h u h1)
  | ⟨.inr (.inr (.inl (a, b)))⟩, ht => by
    rw [MkT] at ht
    rcases ht with h1 | h1
    · exact h _ h1
    · rw [MkT]; exact .inr ⟨MkT.trans h a h1.1, MkT.trans h b h1.2⟩
  | ⟨.inr (.inr (.inr (k, n, a)))⟩, ht => by
    rw [MkT] at ht
    rcases ht with h1 | h1
    · exact h _ h1
    · rw [MkT]; exact .inr ⟨MkT.key.1 (h _ h1.1), MkT.trans h a h1.2⟩
/-- what can be made of what is opened is closed -/
theorem MkT.shut {O : Tr → Prop} (hO : Shut O) : Shut (MkT O) := by
  refine ⟨fun t u h => ?_, fun n t h => ?_, fun n t h hk => ?_⟩
  · unfold pairT at h
    rw [MkT] at h
    rcases h with h1 | h1
    · exact ⟨.base (hO.pair t u h1).1, .base (hO.pair t u h1).2⟩
    · exact h1
  · unfold signT at h
    rw [MkT] at h
    rcases h with h1 | h1
    · exact .base (hO.sign n t h1)
    · exact h1.2
  · unfold sealT at h
    rw [MkT] at h
    rcases h with h1 | h1
    · exact .base (hO.sealK n t h1 (MkT.key.1 hk))
    · exact h1.2
theorem opT_fit {S : Nat → ByteArray} {len : Nat} {u : Tr} (hf : Fit u) : OpT S len u.txt.toList ↔ Op (Kn S len) u :=
  ⟨fun ⟨t, h1, h2⟩ => by rw [← txt_inj (op_fit h1) hf h2]; exact h1, fun h => ⟨u, h, rfl⟩⟩
theorem CanT.mk {S : Nat → ByteArray} {len : Nat} {t : Tr} (hf : Fit t) (hq : knownB S len = true) : CanT S len t.txt ↔ MkT (Op (Kn S len)) t := by
  rw [CanT.at hf hq]
  exact MkT.congr (fun u hu => opT_fit hu) t hf
/-- CUT: what can be made gives nothing more -/
theorem cut_plain {S S' : Nat → ByteArray} {len len' : Nat} {t : ByteArray} (h : CanT S len t) (hq' : knownB S' len' = true) (hk : ∀ u, Kn S' len' u ↔ Kn S len u ∨ (Fit u ∧ u.txt = t)) (x : ByteArray) : CanT S' len' x ↔ CanT S len x := by
  obtain ⟨hq, v, hv, rfl, _⟩ := h
  have hm : MkT (Op (Kn S len)) v := (CanT.mk hv hq).1 ⟨hq, v, hv, rfl, by assumption⟩
  have hop : ∀ u, Op (Kn S' len') u → MkT (Op (Kn S len)) u := fun u hu => hu _ (fun y hy => by
    rcases (hk y).1 hy with h1 | ⟨h1, h2⟩
    · exact .base (.base h1)
    · rw [txt_inj h1 hv (by rw [h2])]; exact hm) (MkT.shut (Op.shut _))
  constructor
  · rintro ⟨_, y, h1, rfl, h2⟩
    have h3 := (MkT.congr (fun u hu => opT_fit hu) y h1).1 h2
    exact (CanT.mk h1 hq).2 (MkT.trans hop y h3)
  · rintro ⟨_, y, h1, rfl, h2⟩
    have h3 := (MkT.congr (fun u hu => opT_fit hu) y h1).1 h2
    exact (CanT.mk h1 hq').2 (MkT.trans (fun u hu => .base (hu.mono (fun z hz => (hk z).2 (.inl hz)))) y h3)

theorem LLa (L : List (List UInt8)) : LL (atL L) L.length = L := by
  apply List.ext_getElem
  · rw [LL_len]
  · intro i h1 h2
    rw [LL_len] at h1
    have e := LL_at (atL L) h1
    rw [atL_list] at e
    simp only [List.getD, List.getElem?_eq_getElem h2, Option.getD_some] at e
    rw [List.getElem?_eq_getElem (by rw [LL_len]; exact h1), Option.getD_some] at e
    exact e
theorem bytes_eq {a b : ByteArray} (h : a.toList = b.toList) : a = b := by
  rw [ByteArray.toList_eq, ByteArray.toList_eq] at h
  exact ByteArray.ext (Array.ext' h)
/-- known: a right term whose text is among them -/
theorem kn_list (L : List (List UInt8)) (u : Tr) : Kn (atL L) L.length u ↔ Fit u ∧ u.txt.toList ∈ L := by
  constructor
  · rintro ⟨hf, i, hi, e⟩
    refine ⟨hf, ?_⟩
    rw [e, atL_list]
    simp only [List.getD, List.getElem?_eq_getElem hi, Option.getD_some]
    exact List.getElem_mem hi
  · rintro ⟨hf, hm⟩
    obtain ⟨i, hi, e⟩ := List.mem_iff_getElem.1 hm
    refine ⟨hf, i, hi, bytes_eq ?_⟩
    rw [atL_list]
    simp only [List.getD, List.getElem?_eq_getElem hi, Option.getD_some]
    exact e.symm
theorem kn_put (L : List (List UInt8)) (t : ByteArray) (u : Tr) : Kn (atL (putL L t.toList)) (putL L t.toList).length u ↔ Kn (atL L) L.length u ∨ (Fit u ∧ u.txt = t) := by
  rw [kn_list, kn_list, putL_mem]
  constructor
  · rintro ⟨hf, h | h⟩
    · exact .inl ⟨hf, h⟩
    · exact .inr ⟨hf, bytes_eq h⟩
  · rintro (⟨hf, h⟩ | ⟨hf, h⟩)
    · exact ⟨hf, .inl h⟩
    · exact ⟨hf, .inr (by rw [h])⟩
/-- a learning that is fine: what is known behind it -/
theorem lr_true {L : List (List UInt8)} {t : ByteArray} (h : lrB (atL L) L.length t = true) : lrR (atL L) L.length t = putL L t.toList ∧ knownB (atL (putL L t.toList)) (putL L t.toList).length = true := by
  have e : lrR (atL L) L.length t = putL L t.toList := by
    unfold lrR
    rw [if_pos h, LLa]
  refine ⟨e, ?_⟩
  unfold lrB at h
  rw [LLa, Bool.and_eq_true] at h
  exact h.2
theorem riseB_up {L : List (List UInt8)} (h : Up L) : riseB (atL L) L.length = true := by
  unfold riseB
  rw [List.all_eq_true]
  intro k hk
  have hk := List.mem_range.1 hk
  cases k with
  | zero => rfl
  | succ j =>
    have h1 := List.pairwise_iff_getElem.1 h j (j + 1) (by omega) hk (by omega)
    have h2 : upB (atL L) (j + 1) = true := by
      unfold upB
      rw [Nat.add_sub_cancel, atL_list, atL_list]
      simp only [List.getD, List.getElem?_eq_getElem hk, List.getElem?_eq_getElem (show j < L.length by omega), Option.getD_some]
      exact h1
    rw [h2]
    simp
theorem up_rise {L : List (List UInt8)} (h : riseB (atL L) L.length = true) : Up L := by
  refine List.pairwise_iff_getElem.2 fun i j hi hj hij => ?_
  obtain ⟨d, rfl⟩ : ∃ d, j = i + d + 1 := ⟨j - i - 1, by omega⟩
  have h1 := rise_lessO h i d hj
  rw [atL_list, atL_list] at h1
  simpa only [List.getD, List.getElem?_eq_getElem hi, List.getElem?_eq_getElem hj, Option.getD_some] using h1
theorem termsB_all {S : Nat → ByteArray} {n : Nat} : termsB S n = true ↔ ∀ i, i < n → (rT (S i)).isSome = true := by
  unfold termsB
  rw [List.all_eq_true]
  exact ⟨fun h i hi => h i (List.mem_range.2 hi), fun h i hi => h i (List.mem_range.1 hi)⟩
/-- a right term can be learned where there is room -/
theorem lr_room {L : List (List UInt8)} {t : Tr} (hq : knownB (atL L) L.length = true) (hl : L.length < 30) (hf : Fit t) : lrB (atL L) L.length t.txt = true := by
  unfold lrB
  rw [LLa, hq, Bool.true_and]
  unfold knL knownB
  obtain ⟨h1, h2, h3⟩ := known_of hq
  have hput := putL_len t.txt.toList L
  rw [Bool.and_eq_true, Bool.and_eq_true]
  refine ⟨⟨decide_eq_true (by omega), riseB_up (putL_up _ _ (up_rise h2))⟩, termsB_all.2 fun i hi => ?_⟩
  have hm : (putL L t.txt.toList).getD i [] ∈ putL L t.txt.toList := by
    simp only [List.getD, List.getElem?_eq_getElem hi, Option.getD_some]
    exact List.getElem_mem hi
  rw [← atL_list] at hm
  rcases (putL_mem _ _ _).1 hm with h4 | h4
  · obtain ⟨j, hj, e⟩ := List.mem_iff_getElem.1 h4
    have h5 := termsB_all.1 h3 j hj
    have e2 : atL L j = atL (putL L t.txt.toList) i := by
      apply bytes_eq
      rw [atL_list L]
      simp only [List.getD, List.getElem?_eq_getElem hj, Option.getD_some]
      exact e
    rw [← e2]
    exact h5
  · rw [bytes_eq h4, rT_txt hf.1 hf.2.1 hf.2.2]
    rfl
end Go.Proofs.YtpcbhjejpebogaaGreatDoor
