/-
  Plain facts on rising files: putting, cutting, asking. No condition.
-/
import Derived.Test.YtbohaefmokbgbaaDkL
namespace Go.Proofs.Ytbohaefmokbgbaa
open Go.RowKit
set_option linter.unusedVariables false

/-- files that rise by their names -/
def UpF (L : List Fl) : Prop := L.Pairwise fun f g => lessN f.n g.n = true
theorem lessN_irr {a b : ByteArray} (h : a.toList = b.toList) : lessN a b = false := by unfold lessN; rw [h]; exact bl_irr _
theorem lessN_ne {a b : ByteArray} (h : lessN a b = true) : a.toList ≠ b.toList := fun e => by rw [lessN_irr e] at h; cases h
theorem lessN_trans {a b c : ByteArray} (h : lessN a b = true) (h' : lessN b c = true) : lessN a c = true := bl_trans _ _ _ h h'
theorem lessN_tri {a b : ByteArray} (h : lessN a b = false) (hn : a.toList ≠ b.toList) : lessN b a = true := bl_tri _ _ h hn
theorem lessN_congr {a b c : ByteArray} (h : a.toList = b.toList) (h' : lessN a c = true) : lessN b c = true := by unfold lessN at h' ⊢; rw [← h]; exact h'
theorem ba_ext {a b : ByteArray} (h : a.toList = b.toList) : a = b := by
  rw [ByteArray.toList_eq, ByteArray.toList_eq] at h
  cases a; cases b
  simp at h
  rw [h]
theorem filesB_up {L : List Fl} (h : filesB L = true) : UpF L := by
  unfold filesB at h
  simp only [Bool.and_eq_true, decide_eq_true_eq] at h
  have hf : ∀ k, k < L.length → flB L k = true := fun k hk => by
    have := h.2.1
    unfold flsB at this
    rw [List.all_eq_true] at this
    exact this k (List.mem_range.2 hk)
  have st : ∀ i, i + 1 < L.length → lessN (L.getD i flZ).n (L.getD (i + 1) flZ).n = true := fun i hi => by
    have := hf (i + 1) hi
    unfold flB at this
    rw [Bool.and_eq_true] at this
    simpa using this.2
  have far : ∀ d i, i + d + 1 < L.length → lessN (L.getD i flZ).n (L.getD (i + d + 1) flZ).n = true := fun d => by
    induction d with
    | zero => exact fun i hi => st i hi
    | succ d ih => exact fun i hi => lessN_trans (ih i (by omega)) (st (i + d + 1) hi)
  unfold UpF
  rw [List.pairwise_iff_getElem]
  intro i j hi hj hij
  obtain ⟨d, rfl⟩ : ∃ d, j = i + d + 1 := ⟨j - i - 1, by omega⟩
  have := far d i hj
  simpa [hi, hj] using this

theorem getF_nil (s : ByteArray) : getF [] s = none := rfl
theorem getF_cons (f : Fl) (L : List Fl) (s : ByteArray) : getF (f :: L) s = if (f.n.toList == s.toList) = true then some f.d else getF L s := by
  unfold getF
  rw [List.find?_cons]
  cases h : (f.n.toList == s.toList) <;> simp
theorem getF_congr (L : List Fl) {s t : ByteArray} (h : s.toList = t.toList) : getF L s = getF L t := by unfold getF; rw [h]
theorem getF_out {L : List Fl} {s : ByteArray} (h : ∀ f ∈ L, f.n.toList ≠ s.toList) : getF L s = none := by
  unfold getF
  rw [Option.map_eq_none_iff, List.find?_eq_none]
  intro f hf
  simpa using h f hf
theorem getF_some {L : List Fl} (hu : UpF L) {f : Fl} (hf : f ∈ L) : getF L f.n = some f.d := by
  induction L with
  | nil => cases hf
  | cons g L ih =>
    rw [getF_cons]
    rcases List.mem_cons.1 hf with rfl | hf
    · rw [if_pos (by simp)]
    · have hgf := (List.pairwise_cons.1 hu).1 f hf
      rw [if_neg (by simpa using lessN_ne hgf)]
      exact ih (List.pairwise_cons.1 hu).2 hf

def putR : List Fl → ByteArray → ByteArray → List Fl
  | [], s, d => [⟨s, d⟩]
  | f :: L, s, d => if (f.n.toList == s.toList) = true then ⟨s, d⟩ :: L else if lessN f.n s = true then f :: putR L s d else ⟨s, d⟩ :: f :: L
theorem put_on (s d : ByteArray) : ∀ (M A : List Fl), (∀ f ∈ M, (f.n.toList == s.toList) = false) → M.foldl (putS s d) (A, true) = (A ++ M, true)
  | [], A, _ => by simp
  | f :: M, A, h => by
    rw [List.foldl_cons]
    have e : putS s d (A, true) f = (A ++ [f], true) := by
      unfold putS
      rw [h f List.mem_cons_self]
      simp
    rw [e, put_on s d M _ (fun g hg => h g (List.mem_cons_of_mem _ hg))]
    simp
def finP (s d : ByteArray) (r : List Fl × Bool) : List Fl := if r.2 = true then r.1 else r.1 ++ [(⟨s, d⟩ : Fl)]
theorem put_off (s d : ByteArray) : ∀ (M A : List Fl), UpF M → finP s d (M.foldl (putS s d) (A, false)) = A ++ putR M s d
  | [], A, _ => by simp [finP, putR]
  | f :: M, A, h => by
    obtain ⟨h1, h2⟩ := List.pairwise_cons.1 h
    rw [List.foldl_cons, putR]
    cases he : (f.n.toList == s.toList) with
    | true =>
      have hl : lessN f.n s = false := lessN_irr (eq_of_beq he)
      have e : putS s d (A, false) f = (A ++ [⟨s, d⟩], true) := by unfold putS; rw [he, hl]; simp
      rw [e, put_on s d M _ (fun g hg => by
        have := lessN_ne (lessN_congr (eq_of_beq he) (h1 g hg))
        simpa using fun q => this q.symm)]
      simp [finP]
    | false =>
      cases hl : lessN f.n s with
      | true =>
        have e : putS s d (A, false) f = (A ++ [f], false) := by unfold putS; rw [he, hl]; simp
        rw [e, put_off s d M _ h2]
        simp
      | false =>
        have hsf : lessN s f.n = true := lessN_tri hl (by simpa using he)
        have e : putS s d (A, false) f = (A ++ [⟨s, d⟩] ++ [f], true) := by unfold putS; rw [he, hl]; simp
        rw [e, put_on s d M _ (fun g hg => by
          have := lessN_ne (lessN_trans hsf (h1 g hg))
          simpa using fun q => this q.symm)]
        simp [finP]
theorem putF_eq {L : List Fl} (h : UpF L) (s d : ByteArray) : putF L s d = putR L s d := by
  have := put_off s d L [] h
  have e : putTo L s d L.length = L.foldl (putS s d) ([], false) := by unfold putTo; rw [List.take_length]
  rw [← e] at this
  unfold putF
  simpa [finP] using this
theorem putR_mem {L : List Fl} {s d : ByteArray} {g : Fl} (h : g ∈ putR L s d) : g ∈ L ∨ g = ⟨s, d⟩ := by
  induction L with
  | nil => right; simpa [putR] using h
  | cons f L ih =>
    rw [putR] at h
    split at h
    · rcases List.mem_cons.1 h with h | h
      · exact .inr h
      · exact .inl (List.mem_cons_of_mem _ h)
    · split at h
      · rcases List.mem_cons.1 h with h | h
        · exact .inl (by rw [h]; exact List.mem_cons_self)
        · rcases ih h with h | h
          · exact .inl (List.mem_cons_of_mem _ h)
          · exact .inr h
      · rcases List.mem_cons.1 h with h | h
        · exact .inr h
        · exact .inl h
theorem putR_up {L : List Fl} (h : UpF L) (s d : ByteArray) : UpF (putR L s d) := by
  induction L with
  | nil => exact List.pairwise_singleton _ _
  | cons f L ih =>
    obtain ⟨h1, h2⟩ := List.pairwise_cons.1 h
    rw [putR]
    split
    · rename_i he
      exact List.pairwise_cons.2 ⟨fun g hg => lessN_congr (eq_of_beq he) (h1 g hg), h2⟩
    · rename_i he
      split
      · rename_i hl
        refine List.pairwise_cons.2 ⟨fun g hg => ?_, ih h2⟩
        rcases putR_mem hg with hg | hg
        · exact h1 g hg
        · rw [hg]; exact hl
      · rename_i hl
        have hsf : lessN s f.n = true := lessN_tri (by simpa using hl) (by simpa using he)
        refine List.pairwise_cons.2 ⟨fun g hg => ?_, h⟩
        rcases List.mem_cons.1 hg with rfl | hg
        · exact hsf
        · exact lessN_trans hsf (h1 g hg)
theorem putR_get {L : List Fl} (h : UpF L) (s d t : ByteArray) : getF (putR L s d) t = if (s.toList == t.toList) = true then some d else getF L t := by
  induction L with
  | nil => rw [putR, getF_cons]
  | cons f L ih =>
    obtain ⟨h1, h2⟩ := List.pairwise_cons.1 h
    rw [putR]
    split
    · rename_i he
      rw [getF_cons, getF_cons, eq_of_beq he]
      cases hq : (s.toList == t.toList) <;> simp
    · rename_i he
      split
      · rw [getF_cons, getF_cons, ih h2]
        cases hq : (s.toList == t.toList) with
        | true =>
          rw [← eq_of_beq hq]
          simp [he]
        | false => simp
      · rw [getF_cons]
theorem putR_len {L : List Fl} (h : UpF L) (s d : ByteArray) : (putR L s d).length = if (getF L s).isSome = true then L.length else L.length + 1 := by
  induction L with
  | nil => rfl
  | cons f L ih =>
    obtain ⟨h1, h2⟩ := List.pairwise_cons.1 h
    rw [putR, getF_cons]
    split
    · simp
    · rename_i he
      split
      · rw [List.length_cons, ih h2]
        split <;> simp
      · rename_i hl
        have hsf : lessN s f.n = true := lessN_tri (by simpa using hl) (by simpa using he)
        rw [getF_out (fun g hg => fun q => lessN_ne (lessN_trans hsf (h1 g hg)) q.symm)]
        simp
theorem putR_again (L : List Fl) (s a b : ByteArray) : putR (putR L s a) s b = putR L s b := by
  induction L with
  | nil => simp [putR]
  | cons f L ih =>
    rw [putR, putR]
    split
    · simp [putR]
    · rename_i he
      split
      · rename_i hl
        rw [putR, if_neg he, if_pos hl, ih]
      · simp [putR]
theorem putR_last {A : List Fl} {f : Fl} (h : UpF (A ++ [f])) : putR A f.n f.d = A ++ [f] ∧ getF A f.n = none := by
  have hl : ∀ g ∈ A, lessN g.n f.n = true := fun g hg => (List.pairwise_append.1 h).2.2 g hg f (List.mem_singleton.2 rfl)
  refine ⟨?_, getF_out fun g hg => lessN_ne (hl g hg)⟩
  clear h
  induction A with
  | nil => rfl
  | cons g A ih =>
    rw [putR, if_neg (by simpa using lessN_ne (hl g List.mem_cons_self)), if_pos (hl g List.mem_cons_self), ih (fun x hx => hl x (List.mem_cons_of_mem _ hx))]
    rfl
theorem cutF_up {L : List Fl} (h : UpF L) (s : ByteArray) : UpF (cutF L s) := List.Pairwise.filter _ h
theorem cutF_get (L : List Fl) (s t : ByteArray) : getF (cutF L s) t = if (s.toList == t.toList) = true then none else getF L t := by
  induction L with
  | nil => simp [cutF, getF_nil]
  | cons f L ih =>
    unfold cutF at ih ⊢
    rw [List.filter_cons, getF_cons]
    cases he : (f.n.toList == s.toList) with
    | true =>
      simp only [Bool.not_true, Bool.false_eq_true, ↓reduceIte]
      rw [ih, eq_of_beq he]
      cases hq : (s.toList == t.toList) <;> simp
    | false =>
      simp only [Bool.not_false, ↓reduceIte]
      rw [getF_cons, ih]
      cases hq : (s.toList == t.toList) with
      | true =>
        rw [← eq_of_beq hq, he]
        simp
      | false => simp
theorem cutF_len2 {L : List Fl} (h : UpF L) (s : ByteArray) : (cutF L s).length + (if (getF L s).isSome = true then 1 else 0) = L.length := by
  induction L with
  | nil => rfl
  | cons f L ih =>
    obtain ⟨h1, h2⟩ := List.pairwise_cons.1 h
    have ih := ih h2
    unfold cutF at ih ⊢
    rw [List.filter_cons, getF_cons]
    cases he : (f.n.toList == s.toList) with
    | true =>
      have e0 : getF L s = none := getF_out fun g hg => fun q => lessN_ne (lessN_congr (eq_of_beq he) (h1 g hg)) q.symm
      rw [e0] at ih
      simp at ih ⊢
      omega
    | false =>
      simp at ih ⊢
      omega
end Go.Proofs.Ytbohaefmokbgbaa
