/-
  Crash, plainly: the files behind the ops that are kept. No condition.
-/
import Derived.Test.YtmcojfmkmibjpaaGreatDkI
namespace Go.Proofs.YtmcojfmkmibjpaaGreat
open Go.RowKit
set_option linter.unusedVariables false

theorem cut_tot {s x : ByteArray} : ∀ {L : List Fl}, getF L s = some x → tot (cutF L s) + x.size ≤ tot L
  | [], h => by rw [getF_nil] at h; cases h
  | f :: L, h => by
    rw [getF_cons] at h
    unfold cutF
    rw [List.filter_cons, tot_cons]
    cases he : (f.n.toList == s.toList) with
    | true =>
      rw [if_pos he] at h
      have hx : f.d = x := Option.some.inj h
      have ht := tot_cut L s
      unfold cutF at ht
      simp only [Bool.not_true, Bool.false_eq_true, ↓reduceIte]
      rw [← hx]
      omega
    | false =>
      rw [if_neg (by rw [he]; decide)] at h
      have ih := cut_tot h
      unfold cutF at ih
      simp only [Bool.not_false, ↓reduceIte]
      rw [tot_cons]
      omega
/-- how long what is there now is -/
def oldSz (L : List Fl) (s : ByteArray) : Nat := match getF L s with | some x => x.size | none => 0
theorem putR_tot {s d : ByteArray} : ∀ {L : List Fl}, UpF L → tot (putR L s d) + oldSz L s ≤ tot L + d.size
  | [], _ => by
    show tot [(⟨s, d⟩ : Fl)] + 0 ≤ 0 + d.size
    rw [tot_one]
    simp
  | f :: L, h => by
    obtain ⟨h1, h2⟩ := List.pairwise_cons.1 h
    rw [putR]
    unfold oldSz
    rw [getF_cons]
    split
    · simp only
      rw [tot_cons, tot_cons]
      show d.size + tot L + f.d.size ≤ _
      omega
    · rename_i he
      split
      · have ih := putR_tot (s := s) (d := d) h2
        unfold oldSz at ih
        rw [tot_cons, tot_cons]
        omega
      · rename_i hl
        have hsf : lessN s f.n = true := lessN_tri (by simpa using hl) (by simpa using he)
        rw [getF_out (fun g hg => fun q => lessN_ne (lessN_trans hsf (h1 g hg)) q.symm)]
        rw [tot_cons, tot_cons]
        show d.size + (f.d.size + tot L) + 0 ≤ _
        omega
theorem doF_tot {K : List Fl} (h : UpF K) (o : Dop) : tot (doF K o).1 ≤ tot K + o.d.size := by
  unfold doF
  split
  · show tot (putF _ _ _) ≤ _
    rw [putF_eq h]
    have := putR_tot (s := o.n) (d := match getF K o.n with | some x => x ++ o.d | none => o.d) h
    unfold oldSz at this
    cases hg : getF K o.n with
    | none => rw [hg] at this; simp only at this ⊢; omega
    | some x => rw [hg] at this; simp only [ByteArray.size_append] at this ⊢; omega
  · cases hg : getF K o.n with
    | none => show tot K ≤ _; omega
    | some x =>
      have hc := cut_tot hg
      simp only
      split
      · show tot (putF _ _ _) ≤ _
        have := tot_put (cutF K o.n) o.t x
        omega
      · show tot (cutF _ _) ≤ _
        omega
theorem doF_len1 {K : List Fl} (h : UpF K) (o : Dop) : (doF K o).1.length ≤ K.length + 1 := by
  have hp : ∀ {L : List Fl} (_ : UpF L) (s d : ByteArray), (putF L s d).length ≤ L.length + 1 := fun {L} hu s d => by
    rw [putF_eq hu, putR_len hu]
    split <;> omega
  unfold doF
  split
  · exact hp h _ _
  · cases hg : getF K o.n with
    | none => show K.length ≤ _; omega
    | some x =>
      have hc := cutF_len K o.n
      simp only
      split
      · have := hp (cutF_up h o.n) o.t x
        show (putF _ _ _).length ≤ _
        omega
      · show (cutF _ _).length ≤ _
        omega
/-- what is left of an op when power is lost while it is written -/
def tornO (o : Dop) (t : Nat) : Dop := if o.k = 1 ∧ t < o.d.size then ⟨o.k, o.n, o.t, o.d.extract 0 t⟩ else o
/-- the op that is done at that place of those kept -/
def opAt (O : List Dop) (Z : List Int) (t i : Nat) : Dop := if i + 1 = Z.length then tornO (O.getD (Z.getD i 0).toNat dopZ) t else O.getD (Z.getD i 0).toNat dopZ
/-- the files behind so many of those kept -/
def crF (S : List Fl) (O : List Dop) (Z : List Int) (t : Nat) : Nat → List Fl
  | 0 => S
  | k + 1 => (doF (crF S O Z t k) (opAt O Z t k)).1
def plB (n : Nat) (Z : List Int) (i : Nat) : Bool := inB 0 ((n : Int) - 1) (Z.getD i 0) && (decide (i = 0) || decide (Z.getD (i - 1) 0 < Z.getD i 0))
/-- they rise, and are places -/
def placesB (n : Nat) (Z : List Int) : Bool := (List.range Z.length).all fun i => plB n Z i
theorem placesB_at {n : Nat} {Z : List Int} (h : placesB n Z = true) {i : Nat} (hi : i < Z.length) : 0 ≤ Z.getD i 0 ∧ Z.getD i 0 < n ∧ (0 < i → Z.getD (i - 1) 0 < Z.getD i 0) := by
  unfold placesB at h
  rw [List.all_eq_true] at h
  have := h i (List.mem_range.2 hi)
  unfold plB inB at this
  simp only [Bool.and_eq_true, Bool.or_eq_true, decide_eq_true_eq] at this
  obtain ⟨⟨h1, h2⟩, h3⟩ := this
  exact ⟨h1, by omega, fun hp => h3.resolve_left (by omega)⟩
theorem placesB_no {n : Nat} {Z : List Int} {i : Nat} (hi : i < Z.length) (h : plB n Z i = false) : placesB n Z = false := by
  cases hq : placesB n Z with
  | false => rfl
  | true =>
    unfold placesB at hq
    rw [List.all_eq_true] at hq
    rw [hq i (List.mem_range.2 hi)] at h
    cases h
theorem placesB_yes {n : Nat} {Z : List Int} (h : ∀ i, i < Z.length → plB n Z i = true) : placesB n Z = true := by
  unfold placesB
  rw [List.all_eq_true]
  exact fun i hi => h i (List.mem_range.1 hi)
theorem places_ge {n : Nat} {Z : List Int} (h : placesB n Z = true) : ∀ i, i < Z.length → (i : Int) ≤ Z.getD i 0
  | 0, hi => (placesB_at h hi).1
  | i + 1, hi => by
    have h1 := places_ge h i (by omega)
    have h2 := (placesB_at h hi).2.2 (by omega)
    rw [Nat.add_sub_cancel] at h2
    omega
theorem places_len {n : Nat} {Z : List Int} (h : placesB n Z = true) : Z.length ≤ n := by
  rcases Nat.eq_zero_or_pos Z.length with hz | hz
  · omega
  · have h1 := places_ge h (Z.length - 1) (by omega)
    have h2 := (placesB_at h (show Z.length - 1 < Z.length by omega)).2.1
    omega
theorem torn_size (o : Dop) (t : Nat) : (tornO o t).d.size ≤ o.d.size ∧ (tornO o t).n = o.n ∧ (tornO o t).t = o.t ∧ (tornO o t).k = o.k := by
  unfold tornO
  split
  · refine ⟨?_, rfl, rfl, rfl⟩
    show (o.d.extract 0 t).size ≤ _
    rw [ByteArray.size_extract]
    omega
  · exact ⟨Nat.le_refl _, rfl, rfl, rfl⟩
theorem torn_form {o : Dop} (h : formB o = true) (t : Nat) : formB (tornO o t) = true := by
  unfold tornO
  split
  · rename_i hk
    unfold formB at h ⊢
    simp only [hk.1] at h ⊢
    simpa using h
  · exact h
theorem runB_form : ∀ {O : List Dop} {S n : List Fl}, runB S O = some n → ∀ o ∈ O, formB o = true
  | [], _, _, _, o, ho => by cases ho
  | q :: O, S, n, h, o, ho => by
    rw [runB] at h
    split at h
    · rename_i hq
      simp only [Bool.and_eq_true] at hq
      rcases List.mem_cons.1 ho with e | e
      · rw [e]; exact hq.2.1
      · exact runB_form h o e
    · cases h
theorem disk_forms {L S : List Fl} {O : List Dop} (h : diskB L S O = true) : ∀ o ∈ O, formB o = true := by
  unfold diskB at h
  simp only [Bool.and_eq_true] at h
  have h4 := h.2.2.2
  cases hr : runB S O with
  | none => rw [hr] at h4; cases h4
  | some n => exact runB_form hr
theorem getD_mem {O : List Dop} {i : Nat} (h : i < O.length) : O.getD i dopZ ∈ O := by
  simp [h]
theorem doF_in {K : List Fl} (h : UpF K) {o : Dop} (hk : o.k = 1) : o.d.size ≤ tot (doF K o).1 := by
  unfold doF
  rw [if_pos hk]
  show _ ≤ tot (putF _ _ _)
  rw [putF_eq h]
  have hq := putR_get h o.n (match getF K o.n with | some x => x ++ o.d | none => o.d) o.n
  rw [if_pos (beq_self_eq_true o.n.toList)] at hq
  obtain ⟨f, hf, e⟩ := getF_mem hq
  have := tot_mem hf
  rw [e] at this
  cases hg : getF K o.n with
  | none => rw [hg] at this; exact this
  | some x => rw [hg] at this; simp only [ByteArray.size_append] at this ⊢; omega
theorem form_empty {o : Dop} (h : formB o = true) (hk : o.k ≠ 1) : o.d.size = 0 := by
  have hz : o.d.toList.isEmpty = true := by
    unfold formB at h
    simp only [Bool.and_eq_true] at h
    have h2 := h.2.2
    split at h2
    · simp only [Bool.and_eq_true] at h2
      exact h2.2
    · simp only [Bool.and_eq_true, Bool.or_eq_true, beq_iff_eq] at h2
      exact h2.2.resolve_left hk
  rw [ByteArray.toList_eq, List.isEmpty_iff] at hz
  show o.d.data.size = 0
  rw [← Array.length_toList, hz]
  rfl
theorem runB_small : ∀ {O : List Dop} {S n : List Fl}, UpF S → runB S O = some n → ∀ o ∈ O, o.d.size ≤ 200000
  | [], _, _, _, _, o, ho => by cases ho
  | q :: O, S, n, hu, h, o, ho => by
    rw [runB] at h
    split at h
    · rename_i hq
      simp only [Bool.and_eq_true] at hq
      rcases List.mem_cons.1 ho with e | e
      · rw [e]
        by_cases hk : q.k = 1
        · have h1 := doF_in hu hk
          have h2 := (filesB_parts hq.2.2).2.1
          omega
        · rw [form_empty hq.2.1 hk]
          omega
      · exact runB_small (doF_up hu q) h o e
    · cases h
theorem disk_small {L S : List Fl} {O : List Dop} (h : diskB L S O = true) : ∀ o ∈ O, o.d.size ≤ 200000 := by
  unfold diskB at h
  simp only [Bool.and_eq_true] at h
  have h4 := h.2.2.2
  cases hr : runB S O with
  | none => rw [hr] at h4; cases h4
  | some n => exact runB_small (filesB_up h.2.1) hr
theorem opAt_is {L S : List Fl} {O : List Dop} {Z : List Int} {t i : Nat} (hd : diskB L S O = true) (hz : ∀ o ∈ O, o.d.size ≤ 100000000) (hp : placesB O.length Z = true) (hi : i < Z.length) : formB (opAt O Z t i) = true ∧ (opAt O Z t i).d.size ≤ 100000000 := by
  have h1 := placesB_at hp hi
  have hm : O.getD (Z.getD i 0).toNat dopZ ∈ O := getD_mem (by omega)
  unfold opAt
  split
  · exact ⟨torn_form (disk_forms hd _ hm) t, Nat.le_trans (torn_size _ t).1 (hz _ hm)⟩
  · exact ⟨disk_forms hd _ hm, hz _ hm⟩
theorem crF_facts {L S : List Fl} {O : List Dop} {Z : List Int} {t : Nat} {M : Nat} (hd : diskB L S O = true) (hu : UpF S) (hn : ∀ f ∈ S, nmB f.n = true) (hz : ∀ o ∈ O, o.d.size ≤ M) (hp : placesB O.length Z = true) : ∀ k, k ≤ Z.length → UpF (crF S O Z t k) ∧ (∀ f ∈ crF S O Z t k, nmB f.n = true) ∧ (crF S O Z t k).length ≤ S.length + k ∧ tot (crF S O Z t k) ≤ tot S + k * M
  | 0, _ => ⟨hu, hn, Nat.le_refl _, by show tot S ≤ _; omega⟩
  | k + 1, hk => by
    obtain ⟨i1, i2, i3, i4⟩ := crF_facts hd hu hn hz hp k (by omega)
    have h1 := placesB_at hp (show k < Z.length by omega)
    have hm : O.getD (Z.getD k 0).toNat dopZ ∈ O := getD_mem (by omega)
    have hf : formB (opAt O Z t k) = true ∧ (opAt O Z t k).d.size ≤ M := by
      unfold opAt
      split
      · exact ⟨torn_form (disk_forms hd _ hm) t, Nat.le_trans (torn_size _ t).1 (hz _ hm)⟩
      · exact ⟨disk_forms hd _ hm, hz _ hm⟩
    have e1 := doF_len1 i1 (opAt O Z t k)
    have e2 := doF_tot i1 (opAt O Z t k)
    refine ⟨doF_up i1 _, doF_names i2 hf.1, ?_, ?_⟩
    · show (doF _ _).1.length ≤ _
      omega
    · show tot (doF _ _).1 ≤ _
      rw [Nat.add_mul, Nat.one_mul]
      omega
end Go.Proofs.YtmcojfmkmibjpaaGreat
