/-
  What the specification's rosters are, as plain data: who is dropped in an epoch, who is a member and who administers behind it; each list rises and stays within 1 .. 9. No condition.
-/
import Derived.Test.YtglnnocfdlachaaRsB
import Derived.Test.YtglnnocfdlachaaCk
namespace Go.Proofs.Ytglnnocfdlachaa
open Go.RowKit
set_option linter.unusedVariables false

theorem hasI_iff (L : List Int) (z : Int) : hasI L z = true ↔ z ∈ L := by unfold hasI; simp
theorem withL_mem (L : List Int) (n x : Int) : x ∈ withL L n ↔ (1 ≤ x ∧ x ≤ 9) ∧ (x = n ∨ x ∈ L) := withTo_mem L n x 9
theorem withL_up (L : List Int) (n : Int) : (withL L n).Pairwise (· < ·) := withTo_up L n 9
theorem withL_len (L : List Int) (n : Int) : (withL L n).length ≤ 9 := withTo_len L n 9
theorem withoutL_mem (L : List Int) (n x : Int) : x ∈ withoutL L n ↔ x ∈ L ∧ x ≠ n := by unfold withoutL; simp
theorem withoutL_up {L : List Int} (h : L.Pairwise (· < ·)) (n : Int) : (withoutL L n).Pairwise (· < ·) := h.filter _
theorem withoutL_len (L : List Int) (n : Int) : (withoutL L n).length ≤ L.length := List.length_filter_le _ _

/-- numbers of 1 .. 9 that rise -/
structure Ros (L : List Int) : Prop where
  up : L.Pairwise (· < ·)
  rng : ∀ x ∈ L, 1 ≤ x ∧ x ≤ 9
  len : L.length ≤ 9
theorem Ros.nil : Ros [] := ⟨List.Pairwise.nil, (fun x h => by cases h), by simp⟩
theorem Ros.one : Ros [1] := ⟨List.pairwise_singleton _ _, (fun x h => by simp at h; omega), by simp⟩
theorem Ros.with (L : List Int) (n : Int) : Ros (withL L n) := ⟨withL_up L n, fun x h => ((withL_mem L n x).1 h).1, withL_len L n⟩
theorem Ros.without {L : List Int} (h : Ros L) (n : Int) : Ros (withoutL L n) :=
  ⟨withoutL_up h.up n, fun x hx => h.rng x ((withoutL_mem L n x).1 hx).1, Nat.le_trans (withoutL_len L n) h.len⟩
theorem Ros.unique {L L' : List Int} (h : Ros L) (h' : Ros L') (hm : ∀ x, x ∈ L ↔ x ∈ L') : L = L' := by
  have nd : ∀ {l : List Int}, l.Pairwise (· < ·) → l.Nodup := fun hl => List.Pairwise.imp (fun {x y} hxy e => by subst e; omega) hl
  have hp : L.Perm L' := (List.perm_ext_iff_of_nodup (nd h.up) (nd h'.up)).2 hm
  exact hp.eq_of_pairwise (fun a b _ _ h1 h2 => absurd h1 (by omega)) h.up h'.up

section
variable (D : Nat → Ev) (e : Int)
/-- an event of the epoch that drops, told by one who administers -/
def isDrop (adm : List Int) (x : Ev) : Bool := x.a == e && (x.c == 2 && hasI adm x.b)
/-- whom the first k events drop -/
def goneTo (adm : List Int) : Nat → List Int
  | 0 => []
  | k + 1 => if isDrop e adm (D k) = true then withL (goneTo adm k) (D k).d else goneTo adm k
/-- a list without the first k of another -/
def outTo (G L : List Int) : Nat → List Int
  | 0 => L
  | k + 1 => withoutL (outTo G L k) (G.getD k 0)
def isAdd (adm adm1 G : List Int) (x : Ev) : Bool := x.a == e && (x.c != 2 && (hasI adm1 x.b && (hasI adm x.b && !hasI G x.d)))
def memTo (adm adm1 G mem1 : List Int) : Nat → List Int
  | 0 => mem1
  | k + 1 => if isAdd e adm adm1 G (D k) = true then withL (memTo adm adm1 G mem1 k) (D k).d else memTo adm adm1 G mem1 k
def isRaise (adm1 G : List Int) (x : Ev) : Bool := x.a == e && (x.c == 3 && (hasI adm1 x.b && !hasI G x.d))
def admTo (adm1 G : List Int) : Nat → List Int
  | 0 => adm1
  | k + 1 => if isRaise e adm1 G (D k) = true then withL (admTo adm1 G k) (D k).d else admTo adm1 G k

theorem goneTo_ros (adm : List Int) : ∀ k, Ros (goneTo D e adm k)
  | 0 => Ros.nil
  | k + 1 => by unfold goneTo; split; exact Ros.with _ _; exact goneTo_ros adm k
theorem outTo_ros (G : List Int) {L : List Int} (h : Ros L) : ∀ k, Ros (outTo G L k)
  | 0 => h
  | k + 1 => (outTo_ros G h k).without _
theorem memTo_ros (adm adm1 G : List Int) {mem1 : List Int} (h : Ros mem1) : ∀ k, Ros (memTo D e adm adm1 G mem1 k)
  | 0 => h
  | k + 1 => by unfold memTo; split; exact Ros.with _ _; exact memTo_ros adm adm1 G h k
theorem admTo_ros {adm1 : List Int} (G : List Int) (h : Ros adm1) : ∀ k, Ros (admTo D e adm1 G k)
  | 0 => h
  | k + 1 => by unfold admTo; split; exact Ros.with _ _; exact admTo_ros G h k

theorem goneTo_mem (adm : List Int) (x : Int) : ∀ k, (∀ j, j < k → (D j).fine = true) → (x ∈ goneTo D e adm k ↔ ∃ j, j < k ∧ isDrop e adm (D j) = true ∧ (D j).d = x)
  | 0, _ => by simp [goneTo]
  | k + 1, hf => by
    have ih := goneTo_mem adm x k (fun j hj => hf j (by omega))
    have hk := hf k (by omega)
    have hd : 1 ≤ (D k).d ∧ (D k).d ≤ 5 := by
      unfold Ev.fine inB at hk
      simp at hk
      omega
    unfold goneTo
    by_cases hc : isDrop e adm (D k) = true
    · rw [if_pos hc, withL_mem, ih]
      constructor
      · rintro ⟨_, rfl | ⟨j, hj, h1, h2⟩⟩
        · exact ⟨k, by omega, hc, rfl⟩
        · exact ⟨j, by omega, h1, h2⟩
      · rintro ⟨j, hj, h1, h2⟩
        by_cases ej : j = k
        · subst ej; subst h2; exact ⟨by omega, .inl rfl⟩
        · have hm := (ih.2 ⟨j, by omega, h1, h2⟩)
          exact ⟨(goneTo_ros D e adm k).rng x hm, .inr ⟨j, by omega, h1, h2⟩⟩
    · rw [if_neg hc, ih]
      constructor
      · rintro ⟨j, hj, h1, h2⟩; exact ⟨j, by omega, h1, h2⟩
      · rintro ⟨j, hj, h1, h2⟩
        have ej : j ≠ k := fun h => by subst h; exact hc h1
        exact ⟨j, by omega, h1, h2⟩
theorem outTo_mem (G L : List Int) (x : Int) : ∀ k, k ≤ G.length → (x ∈ outTo G L k ↔ x ∈ L ∧ x ∉ G.take k)
  | 0, _ => by simp [outTo]
  | k + 1, hk => by
    have ih := outTo_mem G L x k (by omega)
    unfold outTo
    rw [withoutL_mem, ih, List.take_add_one]
    have : G[k]?.toList = [G.getD k 0] := by simp [show k < G.length by omega]
    rw [this, List.mem_append, List.mem_singleton]
    constructor
    · rintro ⟨⟨h1, h2⟩, h3⟩; exact ⟨h1, fun h => h.elim h2 h3⟩
    · rintro ⟨h1, h2⟩; exact ⟨⟨h1, fun h => h2 (.inl h)⟩, fun h => h2 (.inr h)⟩
theorem outTo_all (G L : List Int) (x : Int) : x ∈ outTo G L G.length ↔ x ∈ L ∧ x ∉ G := by
  rw [outTo_mem G L x _ (Nat.le_refl _), List.take_length]
theorem memTo_mem (adm adm1 G mem1 : List Int) (hr : Ros mem1) (x : Int) : ∀ k, (∀ j, j < k → (D j).fine = true) → (x ∈ memTo D e adm adm1 G mem1 k ↔ x ∈ mem1 ∨ ∃ j, j < k ∧ isAdd e adm adm1 G (D j) = true ∧ (D j).d = x)
  | 0, _ => by simp [memTo]
  | k + 1, hf => by
    have ih := memTo_mem adm adm1 G mem1 hr x k (fun j hj => hf j (by omega))
    have hk := hf k (by omega)
    have hd : 1 ≤ (D k).d ∧ (D k).d ≤ 5 := by
      unfold Ev.fine inB at hk
      simp at hk
      omega
    unfold memTo
    by_cases hc : isAdd e adm adm1 G (D k) = true
    · rw [if_pos hc, withL_mem]
      constructor
      · rintro ⟨_, rfl | hm⟩
        · exact .inr ⟨k, by omega, hc, rfl⟩
        · rcases ih.1 hm with h | ⟨j, hj, h1, h2⟩
          · exact .inl h
          · exact .inr ⟨j, by omega, h1, h2⟩
      · intro h
        by_cases ej : x = (D k).d
        · exact ⟨by omega, .inl ej⟩
        · have hm : x ∈ memTo D e adm adm1 G mem1 k := ih.2 (h.imp id (fun ⟨j, hj, h1, h2⟩ => ⟨j, Nat.lt_of_le_of_ne (by omega) (fun q => ej (by subst q; exact h2.symm)), h1, h2⟩))
          exact ⟨(memTo_ros D e adm adm1 G hr k).rng x hm, .inr hm⟩
    · rw [if_neg hc, ih]
      refine or_congr Iff.rfl ⟨?_, ?_⟩
      · rintro ⟨j, hj, h1, h2⟩; exact ⟨j, by omega, h1, h2⟩
      · rintro ⟨j, hj, h1, h2⟩
        have ej : j ≠ k := fun h => by subst h; exact hc h1
        exact ⟨j, by omega, h1, h2⟩
theorem admTo_mem (adm1 G : List Int) (hr : Ros adm1) (x : Int) : ∀ k, (∀ j, j < k → (D j).fine = true) → (x ∈ admTo D e adm1 G k ↔ x ∈ adm1 ∨ ∃ j, j < k ∧ isRaise e adm1 G (D j) = true ∧ (D j).d = x)
  | 0, _ => by simp [admTo]
  | k + 1, hf => by
    have ih := admTo_mem adm1 G hr x k (fun j hj => hf j (by omega))
    have hk := hf k (by omega)
    have hd : 1 ≤ (D k).d ∧ (D k).d ≤ 5 := by
      unfold Ev.fine inB at hk
      simp at hk
      omega
    unfold admTo
    by_cases hc : isRaise e adm1 G (D k) = true
    · rw [if_pos hc, withL_mem]
      constructor
      · rintro ⟨_, rfl | hm⟩
        · exact .inr ⟨k, by omega, hc, rfl⟩
        · rcases ih.1 hm with h | ⟨j, hj, h1, h2⟩
          · exact .inl h
          · exact .inr ⟨j, by omega, h1, h2⟩
      · intro h
        by_cases ej : x = (D k).d
        · exact ⟨by omega, .inl ej⟩
        · have hm : x ∈ admTo D e adm1 G k := ih.2 (h.imp id (fun ⟨j, hj, h1, h2⟩ => ⟨j, Nat.lt_of_le_of_ne (by omega) (fun q => ej (by subst q; exact h2.symm)), h1, h2⟩))
          exact ⟨(admTo_ros D e G hr k).rng x hm, .inr hm⟩
    · rw [if_neg hc, ih]
      refine or_congr Iff.rfl ⟨?_, ?_⟩
      · rintro ⟨j, hj, h1, h2⟩; exact ⟨j, by omega, h1, h2⟩
      · rintro ⟨j, hj, h1, h2⟩
        have ej : j ≠ k := fun h => by subst h; exact hc h1
        exact ⟨j, by omega, h1, h2⟩
end

/-- members and administrators behind one epoch -/
def epochL (D : Nat → Ev) (len : Nat) (e : Int) (r : List Int × List Int) : List Int × List Int :=
  (memTo D e r.2 (outTo (goneTo D e r.2 len) r.2 (goneTo D e r.2 len).length) (goneTo D e r.2 len) (outTo (goneTo D e r.2 len) r.1 (goneTo D e r.2 len).length) len,
   admTo D e (outTo (goneTo D e r.2 len) r.2 (goneTo D e r.2 len).length) (goneTo D e r.2 len) len)
theorem epochL_ros (D : Nat → Ev) (len : Nat) (e : Int) {r : List Int × List Int} (h1 : Ros r.1) (h2 : Ros r.2) : Ros (epochL D len e r).1 ∧ Ros (epochL D len e r).2 :=
  ⟨memTo_ros _ _ _ _ _ (outTo_ros _ h1 _) _, admTo_ros _ _ _ (outTo_ros _ h2 _) _⟩
/-- the roster behind epoch k -/
def rosterL (D : Nat → Ev) (len : Nat) : Nat → List Int × List Int
  | 0 => ([1], [1])
  | k + 1 => epochL D len ((k + 1 : Nat) : Int) (rosterL D len k)
theorem rosterL_ros (D : Nat → Ev) (len : Nat) : ∀ k, Ros (rosterL D len k).1 ∧ Ros (rosterL D len k).2
  | 0 => ⟨Ros.one, Ros.one⟩
  | k + 1 => epochL_ros D len _ (rosterL_ros D len k).1 (rosterL_ros D len k).2
end Go.Proofs.Ytglnnocfdlachaa
