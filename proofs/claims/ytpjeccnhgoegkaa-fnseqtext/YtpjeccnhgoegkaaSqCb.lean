/-
  How far two texts begin alike and end alike: plainly, and the program's commonBeginning and commonEnd. No condition.
-/
import Derived.Test.YtpjeccnhgoegkaaSqDs
import Derived.BigQuiet
namespace Go.Proofs.Ytpjeccnhgoegkaa
open Go.RowKit
set_option linter.unusedVariables false

/-- alike from the front, from place k on -/
def cbF (s t : ByteArray) : Nat → Nat → Nat
  | 0, k => k
  | f + 1, k => if k < s.size ∧ k < t.size ∧ bt s k = bt t k then cbF s t f (k + 1) else k
def cb (s t : ByteArray) : Nat := cbF s t s.size 0
theorem cbF_yes {s t : ByteArray} {k : Nat} (h : k < s.size ∧ k < t.size ∧ bt s k = bt t k) : cbF s t (s.size - k) k = cbF s t (s.size - (k + 1)) (k + 1) := by
  obtain ⟨f, hf⟩ : ∃ f, s.size - k = f + 1 := ⟨s.size - k - 1, by omega⟩
  rw [hf, show s.size - (k + 1) = f by omega]
  show (if _ then _ else _) = _
  rw [if_pos h]
theorem cbF_no {s t : ByteArray} {k f : Nat} (h : ¬ (k < s.size ∧ k < t.size ∧ bt s k = bt t k)) : cbF s t f k = k := by
  cases f with
  | zero => rfl
  | succ f =>
    show (if _ then _ else _) = _
    rw [if_neg h]
theorem cbF_le {s t : ByteArray} : ∀ (f k : Nat), k ≤ s.size → k ≤ t.size → cbF s t f k ≤ s.size ∧ cbF s t f k ≤ t.size := by
  intro f
  induction f with
  | zero => intro k h h'; exact ⟨h, h'⟩
  | succ f ih =>
    intro k h h'
    show (if _ then _ else _) ≤ _ ∧ (if _ then _ else _) ≤ _
    by_cases hc : k < s.size ∧ k < t.size ∧ bt s k = bt t k
    · rw [if_pos hc]
      exact ih (k + 1) (by omega) (by omega)
    · rw [if_neg hc]
      exact ⟨h, h'⟩
theorem cb_le (s t : ByteArray) : cb s t ≤ s.size ∧ cb s t ≤ t.size := cbF_le _ _ (Nat.zero_le _) (Nat.zero_le _)

/-- alike from the end, over what lies behind place b -/
def ceF (s t : ByteArray) (b : Nat) : Nat → Nat → Nat
  | 0, k => k
  | f + 1, k => if k < s.size - b ∧ k < t.size - b ∧ bt s (s.size - 1 - k) = bt t (t.size - 1 - k) then ceF s t b f (k + 1) else k
def ce (s t : ByteArray) (b : Nat) : Nat := ceF s t b (s.size - b) 0
theorem ceF_yes {s t : ByteArray} {b k : Nat} (h : k < s.size - b ∧ k < t.size - b ∧ bt s (s.size - 1 - k) = bt t (t.size - 1 - k)) : ceF s t b (s.size - b - k) k = ceF s t b (s.size - b - (k + 1)) (k + 1) := by
  obtain ⟨f, hf⟩ : ∃ f, s.size - b - k = f + 1 := ⟨s.size - b - k - 1, by omega⟩
  rw [hf, show s.size - b - (k + 1) = f by omega]
  show (if _ then _ else _) = _
  rw [if_pos h]
theorem ceF_no {s t : ByteArray} {b k f : Nat} (h : ¬ (k < s.size - b ∧ k < t.size - b ∧ bt s (s.size - 1 - k) = bt t (t.size - 1 - k))) : ceF s t b f k = k := by
  cases f with
  | zero => rfl
  | succ f =>
    show (if _ then _ else _) = _
    rw [if_neg h]
theorem ceF_le {s t : ByteArray} {b : Nat} : ∀ (f k : Nat), k ≤ s.size - b → k ≤ t.size - b → ceF s t b f k ≤ s.size - b ∧ ceF s t b f k ≤ t.size - b := by
  intro f
  induction f with
  | zero => intro k h h'; exact ⟨h, h'⟩
  | succ f ih =>
    intro k h h'
    show (if _ then _ else _) ≤ _ ∧ (if _ then _ else _) ≤ _
    by_cases hc : k < s.size - b ∧ k < t.size - b ∧ bt s (s.size - 1 - k) = bt t (t.size - 1 - k)
    · rw [if_pos hc]
      exact ih (k + 1) (by omega) (by omega)
    · rw [if_neg hc]
      exact ⟨h, h'⟩
theorem ce_le (s t : ByteArray) (b : Nat) : ce s t b ≤ s.size - b ∧ ce s t b ≤ t.size - b := ceF_le _ _ (Nat.zero_le _) (Nat.zero_le _)
theorem bt_cut {s : ByteArray} {b k : Nat} (h : k < s.size - b) : bt (s.extract b s.size) ((s.extract b s.size).size - 1 - k) = bt s (s.size - 1 - k) := by
  have e : (s.extract b s.size).size = s.size - b := by rw [ByteArray.size_extract]; omega
  rw [e]
  unfold bt
  rw [dif_pos (by rw [e]; omega), dif_pos (by omega)]
  have : (s.extract b s.size)[s.size - b - 1 - k]'(by rw [e]; omega) = s[s.size - 1 - k]'(by omega) := by
    rw [ByteArray.getElem_extract]
    congr 1
    omega
  rw [this]
theorem ce_cut (s t : ByteArray) (b : Nat) : ce (s.extract b s.size) (t.extract b t.size) 0 = ce s t b := by
  have e : (s.extract b s.size).size = s.size - b := by rw [ByteArray.size_extract]; omega
  have e' : (t.extract b t.size).size = t.size - b := by rw [ByteArray.size_extract]; omega
  have key : ∀ f k, ceF (s.extract b s.size) (t.extract b t.size) 0 f k = ceF s t b f k := by
    intro f
    induction f with
    | zero => intro k; rfl
    | succ f ih =>
      intro k
      show (if _ then _ else _) = (if _ then _ else _)
      by_cases hc : k < s.size - b ∧ k < t.size - b ∧ bt s (s.size - 1 - k) = bt t (t.size - 1 - k)
      · rw [if_pos hc, if_pos ⟨by rw [e]; omega, by rw [e']; omega, by rw [bt_cut hc.1, bt_cut hc.2.1]; exact hc.2.2⟩]
        exact ih _
      · rw [if_neg hc, if_neg]
        rintro ⟨h1, h2, h3⟩
        have h1' : k < s.size - b := by rw [e] at h1; omega
        have h2' : k < t.size - b := by rw [e'] at h2; omega
        rw [bt_cut h1', bt_cut h2'] at h3
        exact hc ⟨h1', h2', h3⟩
  unfold ce
  rw [key, e]
  rfl
end Go.Proofs.Ytpjeccnhgoegkaa
