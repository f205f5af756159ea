/-
  The program's canBeMade: whether a term can be made of a set of texts. No condition but that the term is right and the table of powers of ten lies.
  The specification's l2Makes: whether a term can be made of what is opened. No condition but that the nodes and the list read.
  CanMake, the program's and the specification's: one answer. No condition but that the slice reads, the text is no longer than the law lets it be, and the table of powers of ten lies.
-/
import Derived.Test.YtcolcnkjcagbaaaGreatDoorBuR
import Derived.Test.YtcolcnkjcagbaaaGreatDoorBuS
namespace Go.Proofs.YtcolcnkjcagbaaaGreatDoor
open Go.RowKit Go.Maps
set_option linter.unusedVariables false

/-- can be made of what P holds -/
def mkP (P : Tr → Bool) : Tr → Bool
  | ⟨.inl (k, n)⟩ => P ⟨.inl (k, n)⟩ || !((k : Int) == 2)
  | ⟨.inr (.inl u)⟩ => P ⟨.inr (.inl u)⟩ || mkP P u
  | ⟨.inr (.inr (.inl (a, b)))⟩ => P ⟨.inr (.inr (.inl (a, b)))⟩ || (mkP P a && mkP P b)
  | ⟨.inr (.inr (.inr (k, n, a)))⟩ => P ⟨.inr (.inr (.inr (k, n, a)))⟩ || (P (keyT n) && mkP P a)
theorem mkP_yes {P : Tr → Bool} : ∀ {t : Tr}, P t = true → mkP P t = true
  | ⟨.inl (k, n)⟩, h => by rw [mkP, h]; rfl
  | ⟨.inr (.inl u)⟩, h => by rw [mkP, h]; rfl
  | ⟨.inr (.inr (.inl (a, b)))⟩, h => by rw [mkP, h]; rfl
  | ⟨.inr (.inr (.inr (k, n, a)))⟩, h => by rw [mkP, h]; rfl
def hasE (E : DataW Value) (t : Tr) : Bool := has E (.string t.txt.toList)
theorem mBelowH (v : Value) (w : World) : (method 348 189 v "loop.example/g00318/impl.below").run Tryz.prog w = .ok (174, v) w := by kernel_rfl
theorem mBelowP (v : Value) (w : World) : (method 348 191 v "loop.example/g00318/impl.below").run Tryz.prog w = .ok (176, v) w := by kernel_rfl
theorem mBelowK (v : Value) (w : World) : (method 348 106 v "loop.example/g00318/impl.below").run Tryz.prog w = .ok (158, v) w := by kernel_rfl
theorem lit6 (a b c d e f : Value) : (#[a, b, c, d, e, f] : Array Value).getD 2 undef = c := rfl
theorem lit7 (a b c d e f g : Value) : (#[a, b, c, d, e, f, g] : Array Value).getD 2 undef = c := rfl
theorem lit8 (a b c d e f g h : Value) : (#[a, b, c, d, e, f, g, h] : Array Value).getD 2 undef = c := rfl
theorem noK_P (v : Value) (w : World) : (Instr.typeAssert (.iface 191 v) 75 106 true).run Tryz.prog w = .ok (.tuple #[.agg #[.int .i64 0, .int .i64 0, .nilIface], .bool false]) w := noK v w 191 (by decide)
theorem one_at {p : Nat → Tr → Prop} {u s : Tr} {j : Nat} (h : p 0 u) (hj : [u][j]? = some s) : p j s := by
  rcases j with _ | j
  · simp at hj; subst hj; exact h
  · simp at hj
theorem two_at {p : Nat → Tr → Prop} {u v s : Tr} {j : Nat} (h : p 0 u) (k : p 1 v) (hj : [u, v][j]? = some s) : p j s := by
  rcases j with _ | _ | j
  · simp at hj; subst hj; exact h
  · simp at hj; subst hj; exact k
  · simp at hj
theorem ret_b {a b : Bool} (h : a = b) : Ending.returned (.bool a) = .returned (.bool b) := by rw [h]
section
variable {B nn : Nat} {E : DataW Value}

end
end Go.Proofs.YtcolcnkjcagbaaaGreatDoor

namespace Go.Proofs.YtcolcnkjcagbaaaGreatDoor
open Go.RowKit Go.Maps
set_option linter.unusedVariables false

def inM (M : List (List UInt8)) (t : Tr) : Bool := decide (t.txt.toList ∈ M)
section
variable {Kd N A B : Nat → Int} {a : Option Addr} {len cap base g gc : Nat} {M : List (List UInt8)}
end
end Go.Proofs.YtcolcnkjcagbaaaGreatDoor

namespace Go.Proofs.YtcolcnkjcagbaaaGreatDoor
open Go.RowKit Go.Maps
set_option linter.unusedVariables false

/-- can be made of what P holds -/
def MkT (P : Tr → Prop) : Tr → Prop
  | ⟨.inl (k, n)⟩ => P ⟨.inl (k, n)⟩ ∨ k ≠ 2
  | ⟨.inr (.inl u)⟩ => P ⟨.inr (.inl u)⟩ ∨ MkT P u
  | ⟨.inr (.inr (.inl (a, b)))⟩ => P ⟨.inr (.inr (.inl (a, b)))⟩ ∨ (MkT P a ∧ MkT P b)
  | ⟨.inr (.inr (.inr (k, n, a)))⟩ => P ⟨.inr (.inr (.inr (k, n, a)))⟩ ∨ (P (keyT n) ∧ MkT P a)
theorem mkP_iff {p : Tr → Bool} {P : Tr → Prop} (h : ∀ u, p u = true ↔ P u) : ∀ t : Tr, mkP p t = true ↔ MkT P t
  | ⟨.inl (k, n)⟩ => by
    rw [mkP, MkT, Bool.or_eq_true, h]
    have e : (!((k : Int) == 2)) = true ↔ k ≠ 2 := by
      rw [Bool.not_eq_true', beq_eq_false_iff_ne]
      omega
    rw [e]
  | ⟨.inr (.inl u)⟩ => by rw [mkP, MkT, Bool.or_eq_true, h, mkP_iff h u]
  | ⟨.inr (.inr (.inl (a, b)))⟩ => by rw [mkP, MkT, Bool.or_eq_true, h, Bool.and_eq_true, mkP_iff h a, mkP_iff h b]
  | ⟨.inr (.inr (.inr (k, n, a)))⟩ => by rw [mkP, MkT, Bool.or_eq_true, h, Bool.and_eq_true, h, mkP_iff h a]
/-- the term of a text can be made of the known texts -/
def CanT (S : Nat → ByteArray) (len : Nat) (s : ByteArray) : Prop := knownB S len = true ∧ ∃ t, Fit t ∧ t.txt = s ∧ MkT (fun u => OpT S len u.txt.toList) t
theorem CanT.at {S : Nat → ByteArray} {len : Nat} {t : Tr} (hf : Fit t) (hq : knownB S len = true) : CanT S len t.txt ↔ MkT (fun u => OpT S len u.txt.toList) t :=
  ⟨fun ⟨_, u, h1, h2, h3⟩ => by rw [← txt_inj h1 hf (by rw [h2])]; exact h3, fun h => ⟨hq, t, hf, rfl, h⟩⟩
theorem canT_bad {S : Nat → ByteArray} {len : Nat} {s : ByteArray} (h : knownB S len = false ∨ rT s = none) : ¬ CanT S len s := fun ⟨h1, t, h2, h3, _⟩ => by
  rcases h with h | h
  · rw [h] at h1; cases h1
  · rw [← h3, rT_txt h2.1 h2.2.1 h2.2.2] at h; cases h

end Go.Proofs.YtcolcnkjcagbaaaGreatDoor
