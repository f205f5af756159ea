/-
  SeqTurned, plainly. No condition.
-/
import Derived.Test.YtjfciokpnhnhbaaSqCb
import Derived.Test.YtjfciokpnhnhbaaSqTy
namespace Go.Proofs.Ytjfciokpnhnhbaa
open Go.RowKit
set_option linter.unusedVariables false

def gD (A : List Ev) (i : Nat) : Ev := A.getD i evZ
theorem listD_gD (A : List Ev) : listD (gD A) A.length = A := listD_getD A
/-- one delete more -/
def stD (author z : Int) (A : List Ev) : Option (List Ev) := if okD (gD A) A.length author z then some (A ++ [opD (gD A) A.length author z]) else none
/-- one insert more -/
def stI (author z : Int) (sg : ByteArray) (A : List Ev) : Option (List Ev) := if okI (gD A) A.length author z sg then some (A ++ [opI (gD A) A.length author z sg]) else none
def itD (author z : Int) : Nat → List Ev → Option (List Ev)
  | 0, A => some A
  | k + 1, A => match stD author z A with
    | none => none
    | some B => itD author z k B
def itI (author : Int) (t : ByteArray) : Nat → Nat → List Ev → Option (List Ev)
  | 0, _, A => some A
  | k + 1, i, A => match stI author i (t.extract i (i + 1)) A with
    | none => none
    | some B => itI author t k (i + 1) B
/-- behind the deletes -/
def itW (author : Int) (t : ByteArray) (n i : Nat) : Option (List Ev) → Option (List Ev)
  | none => none
  | some B => itI author t n i B
def tuN (s t : ByteArray) : Nat := s.size - cb s t - ce s t (cb s t)
def tuM (s t : ByteArray) : Nat := t.size - ce s t (cb s t) - cb s t
def tuG (D : Nat → Ev) (len : Nat) (author : Int) (t : ByteArray) : Bool := seqB D len && inB 1 9 author && decide (t.size ≤ 40)
/-- what SeqTurned makes of a sequence -/
def tuR (D : Nat → Ev) (len : Nat) (author : Int) (t : ByteArray) : Option (List Ev) :=
  if tuG D len author t then itW author t (tuM (textR D len) t) (cb (textR D len) t) (itD author (cb (textR D len) t) (tuN (textR D len) t) (listD D len)) else none
def Good (A : List Ev) : Prop := A.length ≤ 40 ∧ ∀ i, i < A.length → (gD A i).in
theorem good_snoc {A : List Ev} {author : Int} {x : Ev} (h : Good A) (hok : okW (gD A) A.length author x = true) (hx : x.in) : Good (A ++ [x]) := by
  have e : ∀ i, gD (A ++ [x]) i = snocD (gD A) A.length x i := fun i => by unfold snocD; rw [listD_gD]; rfl
  have el : (A ++ [x]).length = A.length + 1 := by simp
  refine ⟨?_, fun i hi => ?_⟩
  · unfold okW at hok
    simp only [Bool.and_eq_true] at hok
    rw [el]
    exact (seqB_parts hok.2).1
  · rw [e]
    rw [el] at hi
    exact snoc_in h.2 hx i hi
theorem stD_some {author z : Int} {A B : List Ev} (h : Good A) (hs : stD author z A = some B) : Good B ∧ ∃ x, B = A ++ [x] := by
  unfold stD at hs
  by_cases hk : okD (gD A) A.length author z = true
  · rw [if_pos hk] at hs
    obtain rfl := Option.some.inj hs
    refine ⟨?_, _, rfl⟩
    unfold okD at hk
    simp only [Bool.and_eq_true] at hk
    refine good_snoc h hk.2 ⟨?_, ?_⟩
    · show (⟨#[]⟩ : ByteArray).size ≤ 9223372036854775807
      decide
    · have hr := hk.1
      unfold inB at hr
      simp only [Bool.and_eq_true, decide_eq_true_eq] at hr
      exact ids_wf (by omega)
  · rw [if_neg hk] at hs
    cases hs
theorem stI_some {author z : Int} {sg : ByteArray} {A B : List Ev} (hsg : sg.size ≤ 9223372036854775807) (h : Good A) (hs : stI author z sg A = some B) : Good B ∧ ∃ x, B = A ++ [x] := by
  unfold stI at hs
  by_cases hk : okI (gD A) A.length author z sg = true
  · rw [if_pos hk] at hs
    obtain rfl := Option.some.inj hs
    refine ⟨?_, _, rfl⟩
    unfold okI at hk
    simp only [Bool.and_eq_true] at hk
    refine good_snoc h hk.2 ⟨hsg, ?_⟩
    have hr := hk.1
    unfold inB at hr
    simp only [Bool.and_eq_true, decide_eq_true_eq] at hr
    show (Lit.int .i64 (aft (idsR (gD A) A.length) z)).wf = true
    unfold aft
    split
    · exact ids_wf (by omega)
    · decide
  · rw [if_neg hk] at hs
    cases hs
theorem stD_ok {author z : Int} {A : List Ev} (h : okD (gD A) A.length author z = true) : stD author z A = some (A ++ [opD (gD A) A.length author z]) := by unfold stD; rw [if_pos h]
theorem stD_no {author z : Int} {A : List Ev} (h : okD (gD A) A.length author z = false) : stD author z A = none := by unfold stD; rw [h]; rfl
theorem stI_ok {author z : Int} {sg : ByteArray} {A : List Ev} (h : okI (gD A) A.length author z sg = true) : stI author z sg A = some (A ++ [opI (gD A) A.length author z sg]) := by unfold stI; rw [if_pos h]
theorem stI_no {author z : Int} {sg : ByteArray} {A : List Ev} (h : okI (gD A) A.length author z sg = false) : stI author z sg A = none := by unfold stI; rw [h]; rfl
theorem itD_no {author z : Int} {k : Nat} {A : List Ev} (h : stD author z A = none) : itD author z (k + 1) A = none := by show (match stD author z A with | none => none | some B => itD author z k B) = none; rw [h]
theorem itD_yes {author z : Int} {k : Nat} {A B : List Ev} (h : stD author z A = some B) : itD author z (k + 1) A = itD author z k B := by show (match stD author z A with | none => none | some B => itD author z k B) = _; rw [h]
theorem itI_no {author : Int} {t : ByteArray} {k i : Nat} {A : List Ev} (h : stI author i (t.extract i (i + 1)) A = none) : itI author t (k + 1) i A = none := by show (match stI author i (t.extract i (i + 1)) A with | none => none | some B => itI author t k (i + 1) B) = none; rw [h]
theorem itI_yes {author : Int} {t : ByteArray} {k i : Nat} {A B : List Ev} (h : stI author i (t.extract i (i + 1)) A = some B) : itI author t (k + 1) i A = itI author t k (i + 1) B := by show (match stI author i (t.extract i (i + 1)) A with | none => none | some B => itI author t k (i + 1) B) = _; rw [h]
theorem tuR_no {D : Nat → Ev} {len : Nat} {author : Int} {t : ByteArray} (h : tuG D len author t = false) : tuR D len author t = none := by unfold tuR; rw [h]; rfl
theorem tuR_yes {D : Nat → Ev} {len : Nat} {author : Int} {t : ByteArray} (h : tuG D len author t = true) : tuR D len author t = itW author t (tuM (textR D len) t) (cb (textR D len) t) (itD author (cb (textR D len) t) (tuN (textR D len) t) (listD D len)) := by unfold tuR; rw [h]; rfl
/-- a sequence, its new ops, and whether it came to be -/
def TP (o : Option (List Ev)) (len : Nat) (W : World) (e : Ending) (w' : World) : Prop :=
  ∃ v u, e = .returned (.tuple #[v, u, .bool o.isSome]) ∧ OwnV w' W.heap.size v (o.getD []) ∧ OwnV w' W.heap.size u ((o.getD []).drop len) ∧ (∀ k, v.ownBlock = some k → u.ownBlock ≠ some k) ∧ Below W.heap.size W w'
theorem TP.no {o : Option (List Ev)} {len : Nat} {W w' : World} (h : o = none) (hB : Below W.heap.size W w') : TP o len W (.returned (.tuple #[.slice none 0 0, .slice none 0 0, .bool false])) w' := by
  subst h
  exact ⟨_, _, rfl, OwnV.nil _ _, by rw [show (Option.getD (none : Option (List Ev)) []).drop len = [] by simp]; exact OwnV.nil _ _, (fun k hk => by cases hk), hB⟩
theorem TP.yes {o : Option (List Ev)} {B : List Ev} {len : Nat} {W w' : World} {v u : Value} (h : o = some B) (hv : OwnV w' W.heap.size v B) (hu : OwnV w' W.heap.size u (B.drop len)) (hvu : ∀ k, v.ownBlock = some k → u.ownBlock ≠ some k) (hB : Below W.heap.size W w') : TP o len W (.returned (.tuple #[v, u, .bool true])) w' := by
  subst h
  exact ⟨_, _, rfl, hv, hu, hvu, hB⟩
theorem textR_len (D : Nat → Ev) (len : Nat) (h : seqB D len = true) : (textR D len).size ≤ 40 := by
  unfold textR
  have h2 := textOf_len (seqB_parts h).2 (L := idsR D len) (fun y hy => (idsR_ins hy).1) (idsR D len).length (Nat.le_refl _)
  rw [List.take_length] at h2
  rw [h2]
  exact idsR_len D len
end Go.Proofs.Ytjfciokpnhnhbaa
