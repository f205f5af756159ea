/-
  What is opened of some terms, plainly: the least closed set; and what one step of taking does. No condition.
-/
import Derived.Test.YtcolcnkjcagbaaaGreatDoorSText
namespace Go.Proofs.YtcolcnkjcagbaaaGreatDoor
open Go.RowKit
set_option linter.unusedVariables false

def keyT (n : Nat) : Tr := ⟨.inl (2, n)⟩
def pairT (t u : Tr) : Tr := ⟨.inr (.inr (.inl (t, u)))⟩
def hashT (t : Tr) : Tr := ⟨.inr (.inl t)⟩
def sealT (n : Nat) (t : Tr) : Tr := ⟨.inr (.inr (.inr (6, n, t)))⟩
def signT (n : Nat) (t : Tr) : Tr := ⟨.inr (.inr (.inr (7, n, t)))⟩

/-- what is opened of Q stays in Q -/
structure Shut (Q : Tr → Prop) : Prop where
  pair : ∀ t u, Q (pairT t u) → Q t ∧ Q u
  sign : ∀ n t, Q (signT n t) → Q t
  sealK : ∀ n t, Q (sealT n t) → Q (keyT n) → Q t
/-- what is opened of K -/
def Op (K : Tr → Prop) (t : Tr) : Prop := ∀ Q : Tr → Prop, (∀ u, K u → Q u) → Shut Q → Q t
theorem Op.base {K : Tr → Prop} {t : Tr} (h : K t) : Op K t := fun Q hK _ => hK t h
theorem Op.shut (K : Tr → Prop) : Shut (Op K) :=
  ⟨fun t u h => ⟨fun Q hK hQ => (hQ.pair t u (h Q hK hQ)).1, fun Q hK hQ => (hQ.pair t u (h Q hK hQ)).2⟩, fun n t h Q hK hQ => hQ.sign n t (h Q hK hQ), fun n t h k Q hK hQ => hQ.sealK n t (h Q hK hQ) (k Q hK hQ)⟩
theorem Op.mono {K L : Tr → Prop} (h : ∀ t, K t → L t) {t : Tr} (ht : Op K t) : Op L t := ht (Op L) (fun u hu => .base (h u hu)) (Op.shut L)

/-- what is true between two steps: all is opened, but for what X has yet to come, and what waits for a key that is not there -/
structure Inv (S : Tr → Prop) (W : Nat → List Tr) (X : Tr → Prop) : Prop where
  pair : ∀ t u, S (pairT t u) → (S t ∨ X t) ∧ (S u ∨ X u)
  sign : ∀ n t, S (signT n t) → S t ∨ X t
  sealK : ∀ n t, S (sealT n t) → (S t ∨ X t) ∨ (¬ S (keyT n) ∧ t ∈ W n)
theorem Inv.mono {S : Tr → Prop} {W : Nat → List Tr} {X Y : Tr → Prop} (h : Inv S W X) (hx : ∀ t, X t → S t ∨ Y t) : Inv S W Y := by
  have g : ∀ t, S t ∨ X t → S t ∨ Y t := fun t ht => ht.elim .inl (hx t)
  exact ⟨fun t u hp => ⟨g _ (h.pair t u hp).1, g _ (h.pair t u hp).2⟩, fun n t hs => g _ (h.sign n t hs), fun n t hs => (h.sealK n t hs).elim (fun q => .inl (g _ q)) .inr⟩

/-- terms are taken, one behind the other -/
structure TakeL (S : Tr → Prop) (W : Nat → List Tr) (L : List Tr) (S' : Tr → Prop) (W' : Nat → List Tr) : Prop where
  grow : ∀ t, S t → S' t
  all : ∀ t, t ∈ L → S' t
  inv : ∀ X : Tr → Prop, Inv S W (fun t => X t ∨ t ∈ L) → Inv S' W' X
  sound : ∀ Q : Tr → Prop, Shut Q → (∀ t, S t → Q t) → (∀ t, t ∈ L → Q t) → (∀ n t, t ∈ W n → Q (keyT n) → Q t) → (∀ t, S' t → Q t) ∧ ∀ n t, t ∈ W' n → Q (keyT n) → Q t
  still : ∀ n, S (keyT n) → W' n = W n
theorem TakeL.nil (S : Tr → Prop) (W : Nat → List Tr) : TakeL S W [] S W :=
  ⟨fun t h => h, fun t h => (by cases h), fun X h => h.mono (fun t ht => ht.elim .inr (fun h => (by cases h))), fun Q hQ hS _ hW => ⟨hS, hW⟩, fun n _ => rfl⟩
theorem TakeL.append {S S1 S2 : Tr → Prop} {W W1 W2 : Nat → List Tr} {L M : List Tr} (h : TakeL S W L S1 W1) (k : TakeL S1 W1 M S2 W2) : TakeL S W (L ++ M) S2 W2 := by
  refine ⟨fun t ht => k.grow t (h.grow t ht), fun t ht => ?_, fun X hX => ?_, fun Q hQ hS hL hW => ?_, fun n hn => ?_⟩
  · rcases List.mem_append.1 ht with h1 | h1
    · exact k.grow t (h.all t h1)
    · exact k.all t h1
  · refine k.inv X (h.inv _ (hX.mono (fun t ht => .inr ?_)))
    rcases ht with h1 | h1
    · exact .inl (.inl h1)
    · rcases List.mem_append.1 h1 with h2 | h2
      · exact .inr h2
      · exact .inl (.inr h2)
  · obtain ⟨a, b⟩ := h.sound Q hQ hS (fun t ht => hL t (List.mem_append_left _ ht)) hW
    exact k.sound Q hQ a (fun t ht => hL t (List.mem_append_right _ ht)) b
  · rw [k.still n (h.grow _ hn), h.still n hn]

/-- S with t -/
def withT (S : Tr → Prop) (t : Tr) : Tr → Prop := fun u => S u ∨ u = t
/-- t has nothing to be opened by itself -/
def Bare (t : Tr) : Prop := (∀ u v, t ≠ pairT u v) ∧ (∀ n u, t ≠ signT n u) ∧ (∀ n u, t ≠ sealT n u)
theorem TakeL.old {S : Tr → Prop} {W : Nat → List Tr} {t : Tr} (h : S t) : TakeL S W [t] S W :=
  ⟨fun u hu => hu, fun u hu => (by rw [List.mem_singleton.1 hu]; exact h), fun X hX => hX.mono (fun u hu => hu.elim .inr (fun q => .inl (by rw [List.mem_singleton.1 q]; exact h))), fun Q hQ hS _ hW => ⟨hS, hW⟩, fun n _ => rfl⟩

theorem inv_with {S : Tr → Prop} {W : Nat → List Tr} {X Y : Tr → Prop} {t : Tr} (h : Inv S W (fun u => X u ∨ u ∈ [t])) (hx : ∀ u, X u → Y u)
    (hp : ∀ u v, t = pairT u v → (withT S t u ∨ Y u) ∧ (withT S t v ∨ Y v)) (hs : ∀ n u, t = signT n u → withT S t u ∨ Y u) (hl : ∀ n u, t = sealT n u → (withT S t u ∨ Y u) ∨ (¬ withT S t (keyT n) ∧ u ∈ W n))
    (hk : ∀ n u, t = keyT n → u ∈ W n → withT S t u ∨ Y u) : Inv (withT S t) W Y := by
  have g : ∀ u, S u ∨ (X u ∨ u ∈ [t]) → withT S t u ∨ Y u := fun u hu => by
    rcases hu with h1 | h1 | h1
    · exact .inl (.inl h1)
    · exact .inr (hx u h1)
    · exact .inl (.inr (List.mem_singleton.1 h1))
  refine ⟨fun u v hu => ?_, fun n u hu => ?_, fun n u hu => ?_⟩
  · rcases hu with h1 | h1
    · exact ⟨g _ (h.pair u v h1).1, g _ (h.pair u v h1).2⟩
    · exact hp u v h1.symm
  · rcases hu with h1 | h1
    · exact g _ (h.sign n u h1)
    · exact hs n u h1.symm
  · rcases hu with h1 | h1
    · rcases h.sealK n u h1 with h2 | ⟨h2, h3⟩
      · exact .inl (g _ h2)
      · by_cases hkt : keyT n = t
        · exact .inl (hk n u hkt.symm h3)
        · exact .inr ⟨fun q => q.elim h2 hkt, h3⟩
    · exact hl n u h1.symm

theorem TakeL.bare {S : Tr → Prop} {W : Nat → List Tr} {t : Tr} (hb : Bare t) (hk : ∀ n, t ≠ keyT n) : TakeL S W [t] (withT S t) W :=
  ⟨fun u hu => .inl hu, fun u hu => .inr (List.mem_singleton.1 hu), fun X hX => inv_with hX (fun u h => h) (fun u v e => absurd e (hb.1 u v)) (fun n u e => absurd e (hb.2.1 n u)) (fun n u e => absurd e (hb.2.2 n u)) (fun n u e => absurd e (hk n)),
   fun Q hQ hS hL hW => ⟨fun u hu => hu.elim (hS u) (fun e => by rw [e]; exact hL t (List.mem_singleton.2 rfl)), hW⟩, fun n _ => rfl⟩
theorem TakeL.pair {S S1 : Tr → Prop} {W W1 : Nat → List Tr} {t u : Tr} (h : TakeL (withT S (pairT t u)) W [t, u] S1 W1) : TakeL S W [pairT t u] S1 W1 := by
  refine ⟨fun v hv => h.grow v (.inl hv), fun v hv => h.grow v (.inr (List.mem_singleton.1 hv)), fun X hX => h.inv X (inv_with hX (fun v hv => .inl hv) (fun a b e => ?_) (fun n a e => by cases e) (fun n a e => by cases e) (fun n a e => by cases e)), fun Q hQ hS hL hW => ?_, fun n hn => h.still n (.inl hn)⟩
  · cases e
    exact ⟨.inr (.inr (by simp)), .inr (.inr (by simp))⟩
  · have hp := hQ.pair t u (hL _ (List.mem_singleton.2 rfl))
    exact h.sound Q hQ (fun v hv => hv.elim (hS v) (fun e => by rw [e]; exact hL _ (List.mem_singleton.2 rfl))) (fun v hv => by
      simp at hv
      rcases hv with rfl | rfl
      · exact hp.1
      · exact hp.2) hW
theorem TakeL.sign {S S1 : Tr → Prop} {W W1 : Nat → List Tr} {n : Nat} {t : Tr} (h : TakeL (withT S (signT n t)) W [t] S1 W1) : TakeL S W [signT n t] S1 W1 := by
  refine ⟨fun v hv => h.grow v (.inl hv), fun v hv => h.grow v (.inr (List.mem_singleton.1 hv)), fun X hX => h.inv X (inv_with hX (fun v hv => .inl hv) (fun a b e => by cases e) (fun m a e => ?_) (fun m a e => by cases e) (fun m a e => by cases e)), fun Q hQ hS hL hW => ?_, fun m hm => h.still m (.inl hm)⟩
  · cases e
    exact .inr (.inr (by simp))
  · exact h.sound Q hQ (fun v hv => hv.elim (hS v) (fun e => by rw [e]; exact hL _ (List.mem_singleton.2 rfl))) (fun v hv => by
      rw [List.mem_singleton.1 hv]
      exact hQ.sign n t (hL _ (List.mem_singleton.2 rfl))) hW
theorem TakeL.sealOpen {S S1 : Tr → Prop} {W W1 : Nat → List Tr} {n : Nat} {t : Tr} (hk : S (keyT n)) (h : TakeL (withT S (sealT n t)) W [t] S1 W1) : TakeL S W [sealT n t] S1 W1 := by
  refine ⟨fun v hv => h.grow v (.inl hv), fun v hv => h.grow v (.inr (List.mem_singleton.1 hv)), fun X hX => h.inv X (inv_with hX (fun v hv => .inl hv) (fun a b e => by cases e) (fun m a e => by cases e) (fun m a e => ?_) (fun m a e => by cases e)), fun Q hQ hS hL hW => ?_, fun m hm => h.still m (.inl hm)⟩
  · cases e
    exact .inl (.inr (.inr (by simp)))
  · exact h.sound Q hQ (fun v hv => hv.elim (hS v) (fun e => by rw [e]; exact hL _ (List.mem_singleton.2 rfl))) (fun v hv => by
      rw [List.mem_singleton.1 hv]
      exact hQ.sealK n t (hL _ (List.mem_singleton.2 rfl)) (hS _ hk)) hW
/-- W with t waiting for key n -/
def waitT (W : Nat → List Tr) (n : Nat) (t : Tr) : Nat → List Tr := fun m => if m = n then W n ++ [t] else W m
theorem TakeL.sealWait {S : Tr → Prop} {W : Nat → List Tr} {n : Nat} {t : Tr} (hk : ¬ S (keyT n)) : TakeL S W [sealT n t] (withT S (sealT n t)) (waitT W n t) := by
  have hk' : ¬ withT S (sealT n t) (keyT n) := fun h => h.elim hk (fun e => by cases e)
  have hw : ∀ m u, u ∈ W m → u ∈ waitT W n t m := fun m u hu => by
    unfold waitT
    by_cases e : m = n
    · subst e; rw [if_pos rfl]; exact List.mem_append_left _ hu
    · rw [if_neg e]; exact hu
  refine ⟨fun v hv => .inl hv, fun v hv => .inr (List.mem_singleton.1 hv), fun X hX => ?_, fun Q hQ hS hL hW => ⟨fun v hv => hv.elim (hS v) (fun e => by rw [e]; exact hL _ (List.mem_singleton.2 rfl)), fun m u hu hkm => ?_⟩, fun m hm => ?_⟩
  · have h2 : Inv S (waitT W n t) (fun u => X u ∨ u ∈ [sealT n t]) := ⟨hX.pair, hX.sign, fun m u hs => (hX.sealK m u hs).imp id (fun q => ⟨q.1, hw m u q.2⟩)⟩
    refine inv_with h2 (fun u hu => hu) (fun a b e => by cases e) (fun m a e => by cases e) (fun m a e => ?_) (fun m a e => by cases e)
    cases e
    refine .inr ⟨hk', ?_⟩
    unfold waitT
    rw [if_pos rfl]
    exact List.mem_append_right _ (List.mem_singleton.2 rfl)
  · unfold waitT at hu
    by_cases e : m = n
    · subst e
      rw [if_pos rfl] at hu
      rcases List.mem_append.1 hu with h1 | h1
      · exact hW _ u h1 hkm
      · rw [List.mem_singleton.1 h1]
        exact hQ.sealK _ t (hL _ (List.mem_singleton.2 rfl)) hkm
    · rw [if_neg e] at hu
      exact hW m u hu hkm
  · unfold waitT
    rw [if_neg (fun e => hk (by rw [← e]; exact hm))]
theorem TakeL.key {S S1 : Tr → Prop} {W W1 : Nat → List Tr} {n : Nat} (h : TakeL (withT S (keyT n)) W (W n) S1 W1) : TakeL S W [keyT n] S1 W1 := by
  refine ⟨fun v hv => h.grow v (.inl hv), fun v hv => h.grow v (.inr (List.mem_singleton.1 hv)), fun X hX => h.inv X (inv_with hX (fun v hv => .inl hv) (fun a b e => by cases e) (fun m a e => by cases e) (fun m a e => by cases e) (fun m a e hu => ?_)), fun Q hQ hS hL hW => ?_, fun m hm => h.still m (.inl hm)⟩
  · cases e
    exact .inr (.inr hu)
  · have hkn : Q (keyT n) := hL _ (List.mem_singleton.2 rfl)
    exact h.sound Q hQ (fun v hv => hv.elim (hS v) (fun e => by rw [e]; exact hkn)) (fun v hv => hW n v hv hkn) hW

/-- from nothing: what is taken is what is opened -/
theorem TakeL.opened {L : List Tr} {S : Tr → Prop} {W : Nat → List Tr} (h : TakeL (fun _ => False) (fun _ => []) L S W) (t : Tr) : S t ↔ Op (fun u => u ∈ L) t := by
  constructor
  · intro ht
    exact (h.sound (Op fun u => u ∈ L) (Op.shut _) (fun u hu => hu.elim) (fun u hu => .base hu) (fun n u hu => by cases hu)).1 t ht
  · intro ht
    have hI : Inv S W (fun _ => False) := h.inv _ ⟨fun _ _ q => q.elim, fun _ _ q => q.elim, fun _ _ q => q.elim⟩
    refine ht S h.all ⟨fun a b hp => ?_, fun n a hs => ?_, fun n a hs hk => ?_⟩
    · exact ⟨(hI.pair a b hp).1.resolve_right id, (hI.pair a b hp).2.resolve_right id⟩
    · exact (hI.sign n a hs).resolve_right id
    · rcases hI.sealK n a hs with h1 | ⟨h1, _⟩
      · exact h1.resolve_right id
      · exact absurd hk h1
end Go.Proofs.YtcolcnkjcagbaaaGreatDoor
