/-
  The program's sets of texts. No condition.
-/
import Derived.Test.YtgacfcalbmegpaaGreatDoorKee
import Derived.Test.YtgacfcalbmegpaaGreatDoorDag7
namespace Go.Proofs.YtgacfcalbmegpaaGreatDoor
open Go.RowKit Go.Maps
set_option linter.unusedVariables false

theorem keyL_list (s : ByteArray) : keyL s = .string s.toList := by rw [keyL, ByteArray.toList_eq]

theorem dagB_parts {D : Nat → Nd} {len : Nat} (h : dagB D len = true) : len ≤ 30 ∧ (∀ i, i < len → (D i).ok = true) ∧ riseB (ids D) len = true ∧ ∀ i, i < len → hasB (ids D) len (D i).S (D i).n = true := by
  unfold dagB at h
  simp only [Bool.and_eq_true, decide_eq_true_eq] at h
  obtain ⟨h1, h2, h3, h4⟩ := h
  have key : ∀ (p : Nat → Bool) (n : Nat), allB p n = true → ∀ i, i < n → p i = true := fun p n ha i hi => by
    cases hq : p i with
    | true => rfl
    | false => rw [allB_false hi hq] at ha; cases ha
  exact ⟨h1, key _ _ h2, h3, key _ _ h4⟩

/-- block B is a set of at most n texts that reads as E -/
def SetOf (w : World) (B n : Nat) (E : DataW Value) : Prop := w.ownsMap Tryz.prog 9 unitElem B n E
theorem SetOf.below {w w' : World} {B n : Nat} {E : DataW Value} (h : SetOf w B n E) (hB : Below w.heap.size w w') : SetOf w' B n E := by
  have hl := h.lt
  obtain ⟨es, clock, hb, F, hs, hD⟩ := h
  exact ⟨es, clock, (hB.block _ hl).trans hb, F, hs, hD⟩
/-- E with the text s -/
def putE (E : DataW Value) (s : ByteArray) : DataW Value := E.put (keyL s) (.agg [])
theorem putE_has {E : DataW Value} (hE : IsMap E) (s : ByteArray) (x : List UInt8) : has (putE E s) (.string x) = true ↔ has E (.string x) = true ∨ s.toList = x := by
  unfold putE
  by_cases he : s.toList = x
  · subst he
    rw [← keyL_list, has_put_same hE (keyL_is _)]
    simp
  · rw [has_put_other (k := keyL s) (by rw [keyL_list]; intro h; apply he; simpa using h.symm)]
    simp [he]

set_option maxHeartbeats 400000 in
theorem put_any (B n : Nat) (E : DataW Value) (s : ByteArray) (w : World) (h : SetOf w B n E) (hn : n ≤ 1000000) (hs : s.size ≤ 9223372036854775807) :
    Calls Tryz.prog 56 #[.map (some B), .string s] w fun e w' => e = .returned (.tuple #[]) ∧ SetOf w' B (n + 1) (putE E s) ∧ w.grownBy w' (some B) := by
  have HO : Hid (w.ownsMap Tryz.prog 9 unitElem B n E) := h
  have hkey : keyOf Tryz.prog 9 (.string s) = some (keyL s) := keyS hs
  clear h
  go_enter Tryz.func56, Tryz.ntmps56
  go_wp2_with (at_mapUpdate; refine wpList_mapUpdate_own _ rfl _ _ _ 53 rfl 9 88 lawS Tryz.underlying53 unitElem B n E rfl HO.out (by unfold maxLen; omega) _ _ _ rfl rfl hkey (.agg []) [] unitElem_mk ?_; intro w3 hown3 hgrow3)
  go_end0
  exact ⟨rfl, hown3, hgrow3⟩

set_option maxHeartbeats 400000 in
theorem rising_any (B n : Nat) (E : DataW Value) (w : World) (h : SetOf w B n E) (hn : n ≤ 1000000) :
    Calls Tryz.prog 33 #[.map (some B)] w fun e w' => ∃ (v : Value) (L : List (List UInt8)), e = .returned v ∧ Up L ∧ (∀ x, x ∈ L ↔ has E (.string x) = true) ∧ OwnL w' w.heap.size v L ∧ Below w.heap.size w w' := by
  have HO : Hid (w.ownsMap Tryz.prog 9 unitElem B n E) := h
  clear h
  go_enter Tryz.func33, Tryz.ntmps33
  go_wp2_with (first
    | (go_at_call 58; refine (Tryz.maps_Keys_72 _ _).mono ?_; rintro e w' ⟨rfl, hw'⟩; rw [hw']; clear hw' w')
    | (go_at_call 57; refine (sorted72 B n E unitElem _ HO.out hn).mono ?_; rintro e w4 ⟨v, L, rfl, hU, hM, hO4, hB4⟩))
  go_ret
  exact ⟨v, L, rfl, hU, hM, hO4, hB4⟩

theorem SetOf.isMap {w : World} {B n : Nat} {E : DataW Value} (h : SetOf w B n E) : IsMap E := World.ownsMap.isMap h

end Go.Proofs.YtgacfcalbmegpaaGreatDoor
