/-
  A frame whose slots ds hold f, all others as they were: what a region's operations leave, in whatever order. No condition.
-/
import Derived.Test.YtjfciokpnhnhbaaReg
namespace Go.Proofs.Ytjfciokpnhnhbaa
open Go.RowKit
set_option linter.unusedVariables false

/-- the frame a0, its slots ds written with f -/
def canon (a0 : Act) (ds : List Nat) (f : Nat → Value) : Act := ds.foldl (fun t d => t.put (some d) (f d)) a0
theorem canon_cons (a0 : Act) (d : Nat) (ds : List Nat) (f : Nat → Value) : canon a0 (d :: ds) f = canon (a0.put (some d) (f d)) ds f := rfl
theorem canon_size (ds : List Nat) (f : Nat → Value) : ∀ a0 : Act, (canon a0 ds f).tmps.size = a0.tmps.size := by
  induction ds with
  | nil => intro a0; rfl
  | cons d ds ih => intro a0; rw [canon_cons, ih, put_size]
theorem canon_defers (ds : List Nat) (f : Nat → Value) : ∀ a0 : Act, (canon a0 ds f).defers = a0.defers := by
  induction ds with
  | nil => intro a0; rfl
  | cons d ds ih => intro a0; rw [canon_cons, ih]; rfl
theorem canon_get (ds : List Nat) (f : Nat → Value) (i : Nat) : ∀ a0 : Act, (canon a0 ds f).tmps[i]? = if i ∈ ds ∧ i < a0.tmps.size then some (f i) else a0.tmps[i]? := by
  induction ds with
  | nil => intro a0; simp [canon]
  | cons d ds ih =>
    intro a0
    rw [canon_cons, ih, put_size]
    by_cases hi : i ∈ ds ∧ i < a0.tmps.size
    · rw [if_pos hi, if_pos ⟨List.mem_cons_of_mem _ hi.1, hi.2⟩]
    · rw [if_neg hi]
      by_cases hd : i = d
      · subst hd
        by_cases hs : i < a0.tmps.size
        · rw [if_pos ⟨List.mem_cons_self, hs⟩]
          simp [Act.put, hs]
        · rw [if_neg (fun h => hs h.2)]
          simp [Act.put, hs]
      · rw [if_neg (fun h => hi ⟨by rcases List.mem_cons.1 h.1 with h1 | h1; exact absurd h1 hd; exact h1, h.2⟩)]
        simp [Act.put, Array.getElem?_setIfInBounds_ne (fun h => hd h.symm)]
theorem act_ext {a b : Act} (h1 : ∀ i : Nat, a.tmps[i]? = b.tmps[i]?) (h2 : a.defers = b.defers) : a = b := by
  obtain ⟨t, d⟩ := a
  obtain ⟨t', d'⟩ := b
  obtain rfl : t = t' := Array.ext_getElem? (fun i => h1 i)
  obtain rfl : d = d' := h2
  rfl
theorem canon_put (a0 : Act) (ds : List Nat) (f : Nat → Value) (d : Nat) (v : Value) (hd : d ∈ ds) : (canon a0 ds f).put (some d) v = canon a0 ds (fun x => if x = d then v else f x) := by
  refine act_ext (fun i => ?_) (by rw [canon_defers]; exact canon_defers ds f a0)
  rw [canon_get]
  by_cases hi : i = d
  · subst hi
    rw [if_pos rfl]
    by_cases hs : i < a0.tmps.size
    · rw [if_pos ⟨hd, hs⟩]
      simp [Act.put, canon_size, hs]
    · rw [if_neg (fun h => hs h.2)]
      simp [Act.put, canon_size, hs]
  · rw [if_neg hi]
    have : ((canon a0 ds f).put (some d) v).tmps[i]? = (canon a0 ds f).tmps[i]? := by simp [Act.put, Array.getElem?_setIfInBounds_ne (fun h => hi h.symm)]
    rw [this, canon_get]
theorem canon_eval (a0 : Act) (ds : List Nat) (f : Nat → Value) (d : Nat) (hd : d ∈ ds) (hs : d < a0.tmps.size) : (canon a0 ds f).eval (.tmp d) = f d := by
  have h := canon_get ds f d a0
  rw [if_pos ⟨hd, hs⟩] at h
  show (canon a0 ds f).tmps.getD d undef = _
  simp [h]
theorem canon_eval_ne (a0 : Act) (ds : List Nat) (f : Nat → Value) (d : Nat) (hd : d ∉ ds) : (canon a0 ds f).eval (.tmp d) = a0.eval (.tmp d) := by
  have h := canon_get ds f d a0
  rw [if_neg (fun h => hd h.1)] at h
  show (canon a0 ds f).tmps.getD d undef = a0.tmps.getD d undef
  simp [h]
theorem canon_self (a0 : Act) (ds : List Nat) : canon a0 ds (fun d => a0.eval (.tmp d)) = a0 := by
  refine act_ext (fun i => ?_) (canon_defers ds _ a0)
  rw [canon_get]
  split
  · rename_i h
    show some (a0.tmps.getD i undef) = _
    simp [h.2]
  · rfl
end Go.Proofs.Ytjfciokpnhnhbaa
