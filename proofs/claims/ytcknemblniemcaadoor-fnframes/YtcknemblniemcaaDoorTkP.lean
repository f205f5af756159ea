/-
  Frames taken off a text, as plain functions: a word, whether a frame stands at a place, all frames from a place on. No condition.
-/
import Derived.Test.YtcknemblniemcaaDoorFrS
import Derived.Test.YtcknemblniemcaaDoorMarkT
namespace Go.Proofs.YtcknemblniemcaaDoor
open Go.RowKit
set_option linter.unusedVariables false

def bn (s : ByteArray) (i : Nat) : Nat := (bt s i).toNat
theorem bn_le {s : ByteArray} {i : Nat} (h : i < s.size) : bn s i ≤ 255 := (bt_nat h).2
theorem bn_eq {s : ByteArray} {i : Nat} (h : i < s.size) : (s[i].toNat : Int) = (bn s i : Int) := by rw [bt_in h]; exact (bt_nat h).1
/-- the first k of four bytes at p, as a number, the highest first -/
def wdTo (s : ByteArray) (p : Nat) : Nat → Nat
  | 0 => 0
  | k + 1 => 256 * wdTo s p k + bn s (p + k)
def wd (s : ByteArray) (p : Nat) : Nat := wdTo s p 4
theorem wdTo_le {s : ByteArray} {p : Nat} : ∀ k, p + k ≤ s.size → wdTo s p k < 256 ^ k
  | 0, _ => by show 0 < 1; decide
  | k + 1, h => by
    have h1 := wdTo_le (s := s) (p := p) k (by omega)
    have h2 := bn_le (s := s) (i := p + k) (by omega)
    show 256 * wdTo s p k + bn s (p + k) < 256 ^ (k + 1)
    rw [Nat.pow_succ]
    omega
theorem wd_lt {s : ByteArray} {p : Nat} (h : p + 4 ≤ s.size) : wd s p < 4294967296 := wdTo_le 4 h

/-- the data of the frame at p -/
def dat (s : ByteArray) (p : Nat) : ByteArray := s.extract (p + 8) (p + 8 + wd s p)
/-- is there a frame at p? -/
def frB (s : ByteArray) (p : Nat) : Bool := decide (p + 8 ≤ s.size) && (decide (wd s p ≤ 100000) && (decide (p + 8 + wd s p ≤ s.size) && ((sumT (dat s p)).toList == (s.extract (p + 4) (p + 8)).toList)))
def takeF (s : ByteArray) : Nat → Nat → List (List UInt8) × Nat
  | 0, p => ([], p)
  | f + 1, p => if frB s p = true then ((dat s p).toList :: (takeF s f (p + 8 + wd s p)).1, (takeF s f (p + 8 + wd s p)).2) else ([], p)
/-- what TakeFrames answers -/
def tkF (s : ByteArray) : List (List UInt8) × Nat := takeF s (s.size + 1) 0
theorem takeF_no {s : ByteArray} {p : Nat} (h : frB s p = false) : ∀ f, takeF s f p = ([], p)
  | 0 => rfl
  | f + 1 => by show (if frB s p = true then _ else _) = _; rw [if_neg (by rw [h]; decide)]
theorem takeF_yes {s : ByteArray} {p : Nat} (h : frB s p = true) (f : Nat) : takeF s (f + 1) p = ((dat s p).toList :: (takeF s f (p + 8 + wd s p)).1, (takeF s f (p + 8 + wd s p)).2) := by
  show (if frB s p = true then _ else _) = _
  rw [if_pos h]
theorem frB_parts {s : ByteArray} {p : Nat} (h : frB s p = true) : p + 8 ≤ s.size ∧ wd s p ≤ 100000 ∧ p + 8 + wd s p ≤ s.size ∧ (sumT (dat s p)).toList = (s.extract (p + 4) (p + 8)).toList := by
  unfold frB at h
  simp only [Bool.and_eq_true, decide_eq_true_eq, beq_iff_eq] at h
  exact ⟨h.1, h.2.1, h.2.2.1, h.2.2.2⟩

/-- what was taken so far: L, up to p -/
def Took (s : ByteArray) (L : List (List UInt8)) (p : Nat) : Prop := p ≤ s.size ∧ 8 * L.length ≤ p ∧ ∃ f, s.size + 1 ≤ f + p ∧ tkF s = (L ++ (takeF s f p).1, (takeF s f p).2)
theorem Took.start (s : ByteArray) : Took s [] 0 := ⟨Nat.zero_le _, Nat.zero_le _, s.size + 1, by omega, rfl⟩
theorem Took.step {s : ByteArray} {L : List (List UInt8)} {p : Nat} (h : Took s L p) (hf : frB s p = true) : Took s (L ++ [(dat s p).toList]) (p + 8 + wd s p) := by
  obtain ⟨h1, h2, f, h3, h4⟩ := h
  obtain ⟨q1, q2, q3, _⟩ := frB_parts hf
  obtain ⟨f', rfl⟩ : ∃ f', f = f' + 1 := ⟨f - 1, by omega⟩
  refine ⟨q3, ?_, f', by omega, ?_⟩
  · rw [List.length_append]
    show 8 * (L.length + 1) ≤ _
    omega
  · rw [h4, takeF_yes hf, List.append_assoc]
    rfl
theorem Took.done {s : ByteArray} {L : List (List UInt8)} {p : Nat} (h : Took s L p) (hf : frB s p = false) : tkF s = (L, p) := by
  obtain ⟨h1, h2, f, h3, h4⟩ := h
  rw [h4, takeF_no hf, List.append_nil]
theorem tkF_took (s : ByteArray) : ∀ f p L, Took s L p → s.size + 1 ≤ f + p → ∃ L' p', Took s L' p' ∧ frB s p' = false
  | 0, p, L, h, hf => absurd h.1 (by omega)
  | f + 1, p, L, h, hf => by
    cases hq : frB s p with
    | false => exact ⟨L, p, h, hq⟩
    | true => exact tkF_took s f _ _ (h.step hq) (by omega)
theorem tkF_len (s : ByteArray) : 8 * (tkF s).1.length ≤ s.size ∧ (tkF s).2 ≤ s.size := by
  obtain ⟨L, p, h, hq⟩ := tkF_took s (s.size + 1) 0 [] (Took.start s) (by omega)
  rw [h.done hq]
  obtain ⟨h1, h2, _⟩ := h
  exact ⟨Nat.le_trans h2 h1, h1⟩
end Go.Proofs.YtcknemblniemcaaDoor
