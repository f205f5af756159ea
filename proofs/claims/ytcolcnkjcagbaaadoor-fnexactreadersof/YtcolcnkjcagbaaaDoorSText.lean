/-
  The specification's l1Text gives a tree's text, where the tree sits in the nodes. No condition but that the slices read.
-/
import Derived.Test.YtcolcnkjcagbaaaDoorSDec
namespace Go.Proofs.YtcolcnkjcagbaaaDoor
open Go.RowKit
set_option linter.unusedVariables false

/-- a term -/
structure Tr where
  of : (Nat × Nat) ⊕ Tr ⊕ (Tr × Tr) ⊕ (Nat × Nat × Tr)

namespace Tr
def size : Tr → Nat
  | ⟨.inl (_, _)⟩ => 1
  | ⟨.inr (.inl t)⟩ => t.size + 1
  | ⟨.inr (.inr (.inl (t, u)))⟩ => t.size + u.size + 1
  | ⟨.inr (.inr (.inr (_, _, t)))⟩ => t.size + 1

/-- kinds are kinds, numbers are at most 999 -/
def Ok : Tr → Prop
  | ⟨.inl (k, n)⟩ => (k = 1 ∨ k = 2 ∨ k = 3) ∧ n ≤ 999
  | ⟨.inr (.inl t)⟩ => t.Ok
  | ⟨.inr (.inr (.inl (t, u)))⟩ => t.Ok ∧ u.Ok
  | ⟨.inr (.inr (.inr (k, n, t)))⟩ => (k = 6 ∨ k = 7) ∧ n ≤ 999 ∧ t.Ok

def head : Nat → ByteArray
  | 1 => ⟨#[97]⟩
  | 2 => ⟨#[107]⟩
  | 3 => ⟨#[118]⟩
  | 6 => ⟨#[101, 40, 107]⟩
  | _ => ⟨#[115, 40, 107]⟩

def txt : Tr → ByteArray
  | ⟨.inl (k, n)⟩ => head k ++ decB n
  | ⟨.inr (.inl t)⟩ => (⟨#[104, 40]⟩ ++ t.txt) ++ ⟨#[41]⟩
  | ⟨.inr (.inr (.inl (t, u)))⟩ => (((⟨#[112, 40]⟩ ++ t.txt) ++ ⟨#[44]⟩) ++ u.txt) ++ ⟨#[41]⟩
  | ⟨.inr (.inr (.inr (k, n, t)))⟩ => (((head k ++ decB n) ++ ⟨#[44]⟩) ++ t.txt) ++ ⟨#[41]⟩

/-- the nodes of a term that begins at place o -/
def flat : Tr → Nat → List Nd
  | ⟨.inl (k, n)⟩, _ => [((k : Int), (n : Int), 0, 0)]
  | ⟨.inr (.inl t)⟩, o => t.flat o ++ [(4, 0, ((o + t.size : Nat) : Int) - 1, 0)]
  | ⟨.inr (.inr (.inl (t, u)))⟩, o => t.flat o ++ u.flat (o + t.size) ++ [(5, 0, ((o + t.size : Nat) : Int) - 1, ((o + t.size + u.size : Nat) : Int) - 1)]
  | ⟨.inr (.inr (.inr (k, n, t)))⟩, o => t.flat o ++ [((k : Int), (n : Int), ((o + t.size : Nat) : Int) - 1, 0)]

theorem size_pos : ∀ t : Tr, 1 ≤ t.size
  | ⟨.inl (_, _)⟩ => Nat.le_refl _
  | ⟨.inr (.inl t)⟩ => by unfold size; omega
  | ⟨.inr (.inr (.inl (t, u)))⟩ => by unfold size; omega
  | ⟨.inr (.inr (.inr (_, _, t)))⟩ => by unfold size; omega

theorem flat_length : ∀ (t : Tr) (o : Nat), (t.flat o).length = t.size
  | ⟨.inl (_, _)⟩, o => rfl
  | ⟨.inr (.inl t)⟩, o => by simp [flat, size, flat_length t o]
  | ⟨.inr (.inr (.inl (t, u)))⟩, o => by simp [flat, size, flat_length t o, flat_length u (o + t.size)]; omega
  | ⟨.inr (.inr (.inr (_, _, t)))⟩, o => by simp [flat, size, flat_length t o]
end Tr

theorem decB_size : ∀ n : Nat, (decB n).size ≤ n + 1 := by
  intro n
  induction n using Nat.strongRecOn with
  | _ n ih =>
    by_cases h : n < 10
    · rw [decB_one h, dgI_size]; omega
    · rw [decB_more h, ByteArray.size_append, dgI_size]
      have := ih (n / 10) (by omega)
      omega

theorem head_size (k : Nat) : (Tr.head k).size ≤ 3 := by
  unfold Tr.head
  split <;> decide

theorem Tr.txt_size : ∀ t : Tr, t.Ok → t.txt.size ≤ 1010 * t.size
  | ⟨.inl (k, n)⟩, h => by
    have h1 := head_size k
    have h2 := decB_size n
    unfold Tr.Ok at h
    unfold txt size
    rw [ByteArray.size_append]
    omega
  | ⟨.inr (.inl t)⟩, h => by
    have := txt_size t h
    unfold txt size
    rw [ByteArray.size_append, ByteArray.size_append, show (ByteArray.mk #[104, 40]).size = 2 from rfl, show (ByteArray.mk #[41]).size = 1 from rfl]
    omega
  | ⟨.inr (.inr (.inl (t, u)))⟩, h => by
    have := txt_size t h.1
    have := txt_size u h.2
    unfold txt size
    rw [ByteArray.size_append, ByteArray.size_append, ByteArray.size_append, ByteArray.size_append, show (ByteArray.mk #[112, 40]).size = 2 from rfl, show (ByteArray.mk #[41]).size = 1 from rfl, show (ByteArray.mk #[44]).size = 1 from rfl]
    omega
  | ⟨.inr (.inr (.inr (k, n, t)))⟩, h => by
    have h1 := head_size k
    have h2 := decB_size n
    have h3 := h.2.1
    have := txt_size t h.2.2
    unfold txt size
    rw [ByteArray.size_append, ByteArray.size_append, ByteArray.size_append, ByteArray.size_append, show (ByteArray.mk #[41]).size = 1 from rfl, show (ByteArray.mk #[44]).size = 1 from rfl]
    omega

/-- a term sits in nodes from place o on -/
def Sits (Kd N A B : Nat → Int) : Tr → Nat → Prop
  | ⟨.inl (k, n)⟩, o => Kd o = k ∧ N o = n ∧ A o = 0 ∧ B o = 0
  | ⟨.inr (.inl t)⟩, o => Sits Kd N A B t o ∧ Kd (o + t.size) = 4 ∧ N (o + t.size) = 0 ∧ A (o + t.size) = ((o + t.size : Nat) : Int) - 1 ∧ B (o + t.size) = 0
  | ⟨.inr (.inr (.inl (t, u)))⟩, o => Sits Kd N A B t o ∧ Sits Kd N A B u (o + t.size) ∧ Kd (o + t.size + u.size) = 5 ∧ N (o + t.size + u.size) = 0 ∧ A (o + t.size + u.size) = ((o + t.size : Nat) : Int) - 1 ∧ B (o + t.size + u.size) = ((o + t.size + u.size : Nat) : Int) - 1
  | ⟨.inr (.inr (.inr (k, n, t)))⟩, o => Sits Kd N A B t o ∧ Kd (o + t.size) = k ∧ N (o + t.size) = n ∧ A (o + t.size) = ((o + t.size : Nat) : Int) - 1 ∧ B (o + t.size) = 0

theorem add_ok {a b : ByteArray} (h : a.size + b.size ≤ 1000000) (w : World) : (Op.stringOp .add a b).run Tryd.prog w = .ok (.string (a ++ b)) w := run_string_add_sum w _ _ (by omega)

section
variable {Kd N A B : Nat → Int}

end
end Go.Proofs.YtcolcnkjcagbaaaDoor
