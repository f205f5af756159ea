/-
  Rosters, plainly: whom an administrator drops is no member behind it; without the events of those who do not administer all is as it was. No condition.
-/
import Derived.Test.YthdlgnbdppijkaaIRes
namespace Go.Proofs.Ythdlgnbdppijkaa
open Go.RowKit
set_option linter.unusedVariables false

theorem resR_yes {D : Nat → Ev} {len : Nat} {e : Int} (h : rosB D len e = true) : resR D len e = rosterL D len e.toNat := by unfold resR; rw [h]; rfl
theorem rosB_parts {D : Nat → Ev} {len : Nat} {e : Int} (h : rosB D len e = true) : chainB D len = true ∧ 0 ≤ e ∧ e ≤ 20 := by
  unfold rosB inB at h
  simp only [Bool.and_eq_true, decide_eq_true_eq] at h
  exact ⟨h.1, h.2.1, h.2.2⟩
theorem rosB_mk {D : Nat → Ev} {len : Nat} {e : Int} (h : chainB D len = true) (h0 : 0 ≤ e) (h1 : e ≤ 20) : rosB D len e = true := by
  unfold rosB inB
  rw [h]
  simp [h0, h1]
theorem fine_rng {x : Ev} (h : x.fine = true) : 1 ≤ x.a ∧ x.a ≤ 20 := by
  unfold Ev.fine inB at h
  simp at h
  omega

/-- whom one who administers drops is gone -/
theorem drop_out {D : Nat → Ev} {len : Nat} {e : Int} {mem adm : List Int} (hf : ∀ j, j < len → (D j).fine = true) (hm : Ros mem) (ha : Ros adm) {j : Nat} (hj : j < len) (h1 : (D j).a = e) (h2 : (D j).c = 2) (h3 : hasI adm (D j).b = true) :
    hasI (epochL D len e (mem, adm)).1 (D j).d = false ∧ hasI (epochL D len e (mem, adm)).2 (D j).d = false := by
  have hG : (D j).d ∈ goneTo D e adm len := (goneTo_mem D e adm _ len hf).2 ⟨j, hj, by unfold isDrop; simp [h1, h2, h3], rfl⟩
  have hGb : hasI (goneTo D e adm len) (D j).d = true := (hasI_iff _ _).2 hG
  constructor
  · cases hq : hasI (epochL D len e (mem, adm)).1 (D j).d with
    | false => rfl
    | true =>
      have := (hasI_iff _ _).1 hq
      rcases (memTo_mem D e _ _ _ _ (outTo_ros _ hm _) _ len hf).1 this with q | ⟨i, _, q, hd⟩
      · exact absurd hG ((outTo_all _ _ _).1 q).2
      · unfold isAdd at q
        rw [hd, hGb] at q
        simp at q
  · cases hq : hasI (epochL D len e (mem, adm)).2 (D j).d with
    | false => rfl
    | true =>
      have := (hasI_iff _ _).1 hq
      rcases (admTo_mem D e _ _ (outTo_ros _ ha _) _ len hf).1 this with q | ⟨i, _, q, hd⟩
      · exact absurd hG ((outTo_all _ _ _).1 q).2
      · unfold isRaise at q
        rw [hd, hGb] at q
        simp at q
theorem drop_res {D : Nat → Ev} {len : Nat} {e : Int} (hr : rosB D len e = true) (he : 1 ≤ e) {j : Nat} (hj : j < len) (h1 : (D j).a = e) (h2 : (D j).c = 2) (h3 : hasI (resR D len (e - 1)).2 (D j).b = true) :
    hasI (resR D len e).1 (D j).d = false ∧ hasI (resR D len e).2 (D j).d = false := by
  obtain ⟨hc, h0, h20⟩ := rosB_parts hr
  have hr' : rosB D len (e - 1) = true := rosB_mk hc (by omega) (by omega)
  rw [resR_yes hr'] at h3
  rw [resR_yes hr]
  have hk : e.toNat = (e - 1).toNat + 1 := by omega
  have hst : rosterL D len e.toNat = epochL D len e (rosterL D len (e - 1).toNat) := by
    rw [hk]
    show epochL D len (((e - 1).toNat + 1 : Nat) : Int) _ = _
    rw [show ((((e - 1).toNat + 1 : Nat) : Int)) = e by omega]
  rw [hst]
  exact drop_out (chainB_fine hc) (rosterL_ros D len _).1 (rosterL_ros D len _).2 hj h1 h2 h3

theorem aheadR_trans {x y z : Ev} (h1 : ahead x y = true) (h2 : ahead y z = true) : ahead x z = true := by
  unfold ahead at *
  split at h1 <;> split at h2 <;> try split at h1
  all_goals (try split at h1)
  all_goals (try split at h2)
  all_goals (try split at h2)
  all_goals simp only [decide_eq_true_eq] at h1 h2
  all_goals repeat (split)
  all_goals simp only [decide_eq_true_eq]
  all_goals omega
theorem chainB_ahead {D : Nat → Ev} {len : Nat} (h : chainB D len = true) : ∀ d i, i + d + 1 < len → ahead (D i) (D (i + d + 1)) = true := by
  have at1 : ∀ i, i + 1 < len → ahead (D i) (D (i + 1)) = true := fun i hi => by
    unfold chainB at h
    simp only [Bool.and_eq_true] at h
    have h1 := allB_at h.2 hi
    unfold okAt at h1
    simp only [Bool.and_eq_true] at h1
    simpa using h1.2
  intro d
  induction d with
  | zero => intro i hi; exact at1 i hi
  | succ d ih => intro i hi; exact aheadR_trans (ih i (by omega)) (at1 (i + d + 1) (by omega))
theorem allB_mk {p : Nat → Bool} : ∀ n, (∀ i, i < n → p i = true) → allB p n = true
  | 0, _ => rfl
  | n + 1, h => by rw [allB_succ, allB_mk n (fun i hi => h i (by omega)), h n (by omega)]; rfl

section
variable (D : Nat → Ev) (len : Nat)
/-- who tells it administers ahead of its epoch -/
def keepB (x : Ev) : Bool := hasI (resR D len (x.a - 1)).2 x.b
/-- of the first k events those told by who administers -/
def slimTo : Nat → List Ev
  | 0 => []
  | k + 1 => if keepB D len (D k) = true then slimTo k ++ [D k] else slimTo k
theorem slimTo_yes {k : Nat} (h : keepB D len (D k) = true) : slimTo D len (k + 1) = slimTo D len k ++ [D k] := by rw [slimTo, if_pos h]
theorem slimTo_no {k : Nat} (h : keepB D len (D k) = false) : slimTo D len (k + 1) = slimTo D len k := by rw [slimTo, if_neg (by rw [h]; decide)]
theorem slimTo_len : ∀ k, (slimTo D len k).length ≤ k
  | 0 => Nat.le_refl _
  | k + 1 => by
    have := slimTo_len k
    unfold slimTo
    split
    · simp; omega
    · omega
theorem slimTo_mem (x : Ev) : ∀ k, x ∈ slimTo D len k ↔ ∃ j, j < k ∧ D j = x ∧ keepB D len x = true
  | 0 => by simp [slimTo]
  | k + 1 => by
    have ih := slimTo_mem x k
    unfold slimTo
    by_cases hc : keepB D len (D k) = true
    · rw [if_pos hc, List.mem_append, ih, List.mem_singleton]
      constructor
      · rintro (⟨j, hj, h1, h2⟩ | rfl)
        · exact ⟨j, by omega, h1, h2⟩
        · exact ⟨k, by omega, rfl, hc⟩
      · rintro ⟨j, hj, h1, h2⟩
        by_cases ej : j = k
        · subst ej; exact .inr h1.symm
        · exact .inl ⟨j, by omega, h1, h2⟩
    · rw [if_neg hc, ih]
      constructor
      · rintro ⟨j, hj, h1, h2⟩; exact ⟨j, by omega, h1, h2⟩
      · rintro ⟨j, hj, h1, h2⟩
        have ej : j ≠ k := fun h => by subst h; rw [h1] at hc; exact hc h2
        exact ⟨j, by omega, h1, h2⟩
theorem slimTo_up (h : chainB D len = true) : ∀ k, k ≤ len → (slimTo D len k).Pairwise (fun x y => ahead x y = true)
  | 0, _ => List.Pairwise.nil
  | k + 1, hk => by
    have ih := slimTo_up h k (by omega)
    unfold slimTo
    split
    · rw [List.pairwise_append]
      refine ⟨ih, List.pairwise_singleton _ _, fun x hx y hy => ?_⟩
      rw [List.mem_singleton] at hy
      subst hy
      obtain ⟨j, hj, rfl, _⟩ := (slimTo_mem D len x k).1 hx
      have := chainB_ahead h (k - j - 1) j (by omega)
      rwa [show j + (k - j - 1) + 1 = k by omega] at this
    · exact ih
theorem slim_chain (h : chainB D len = true) : chainB (fun i => (slimTo D len len).getD i evZ) (slimTo D len len).length = true := by
  have hl := slimTo_len D len len
  have h30 := chainB_len h
  have hu := slimTo_up D len h len (Nat.le_refl _)
  unfold chainB
  rw [decide_eq_true (show (slimTo D len len).length ≤ 30 by omega), Bool.true_and]
  refine allB_mk _ fun i hi => ?_
  unfold okAt
  have hm : (slimTo D len len).getD i evZ ∈ slimTo D len len := by simp [hi]
  obtain ⟨j, hj, e, _⟩ := (slimTo_mem D len _ len).1 hm
  show (((slimTo D len len).getD i evZ).fine && (i == 0 || ahead ((slimTo D len len).getD (i - 1) evZ) ((slimTo D len len).getD i evZ))) = true
  have hfi : ((slimTo D len len).getD i evZ).fine = true := by rw [← e]; exact chainB_fine h j hj
  rw [hfi, Bool.true_and]
  by_cases h0 : i = 0
  · subst h0; rfl
  · have := (List.pairwise_iff_getElem.1 hu) (i - 1) i (by omega) hi (by omega)
    simp [List.getD_eq_getElem?_getD, hi, show i - 1 < (slimTo D len len).length by omega, this]
theorem slim_ex (P : Ev → Prop) : (∃ j, j < (slimTo D len len).length ∧ P ((slimTo D len len).getD j evZ)) ↔ ∃ j, j < len ∧ keepB D len (D j) = true ∧ P (D j) := by
  constructor
  · rintro ⟨k, hk, hp⟩
    have hm : (slimTo D len len).getD k evZ ∈ slimTo D len len := by simp [hk]
    obtain ⟨j, hj, h1, h2⟩ := (slimTo_mem D len _ len).1 hm
    exact ⟨j, hj, by rw [h1]; exact h2, by rw [h1]; exact hp⟩
  · rintro ⟨j, hj, h1, hp⟩
    obtain ⟨k, hk, e'⟩ := List.getElem_of_mem ((slimTo_mem D len (D j) len).2 ⟨j, hj, rfl, h1⟩)
    refine ⟨k, hk, ?_⟩
    have : (slimTo D len len).getD k evZ = D j := by simp [hk, e']
    rw [this]
    exact hp
theorem slim_epoch (hc : chainB D len = true) (k : Nat) (hk : k ≤ 20) : epochL (fun i => (slimTo D len len).getD i evZ) (slimTo D len len).length ((k + 1 : Nat) : Int) (rosterL D len k) = epochL D len ((k + 1 : Nat) : Int) (rosterL D len k) := by
  obtain ⟨⟨mem, adm⟩, hr⟩ : ∃ r, rosterL D len k = r := ⟨_, rfl⟩
  rw [hr]
  have hrm : Ros mem := by have := (rosterL_ros D len k).1; rw [hr] at this; exact this
  have hra : Ros adm := by have := (rosterL_ros D len k).2; rw [hr] at this; exact this
  have hfD := chainB_fine hc
  have hfS := chainB_fine (slim_chain D len hc)
  have hkeep : ∀ x : Ev, x.a = ((k + 1 : Nat) : Int) → (keepB D len x = true ↔ x.b ∈ adm) := fun x hx => by
    unfold keepB
    rw [hx, resR_yes (rosB_mk hc (by omega) (by omega)), show ((((k + 1 : Nat) : Int) - 1)).toNat = k by omega, hr, hasI_iff]
  generalize ((k + 1 : Nat) : Int) = e at hkeep ⊢
  have hG : goneTo (fun i => (slimTo D len len).getD i evZ) e adm (slimTo D len len).length = goneTo D e adm len := by
    refine Ros.unique (goneTo_ros _ _ _ _) (goneTo_ros _ _ _ _) fun x => ?_
    rw [goneTo_mem _ e adm x _ hfS, goneTo_mem D e adm x len hfD, slim_ex D len (fun y => isDrop e adm y = true ∧ y.d = x)]
    refine exists_congr fun j => and_congr Iff.rfl ⟨fun h => h.2, fun h => ⟨?_, h⟩⟩
    have h1 := h.1
    unfold isDrop at h1
    simp only [Bool.and_eq_true, beq_iff_eq] at h1
    exact (hkeep _ h1.1).2 ((hasI_iff _ _).1 h1.2.2)
  unfold epochL
  simp only
  rw [hG]
  refine Prod.ext ?_ ?_
  · refine Ros.unique (memTo_ros _ _ _ _ _ (outTo_ros _ hrm _) _) (memTo_ros _ _ _ _ _ (outTo_ros _ hrm _) _) fun x => ?_
    rw [memTo_mem _ e _ _ _ _ (outTo_ros _ hrm _) x _ hfS, memTo_mem D e _ _ _ _ (outTo_ros _ hrm _) x len hfD, slim_ex D len (fun y => isAdd e adm _ _ y = true ∧ y.d = x)]
    refine or_congr Iff.rfl (exists_congr fun j => and_congr Iff.rfl ⟨fun h => h.2, fun h => ⟨?_, h⟩⟩)
    have h1 := h.1
    unfold isAdd at h1
    simp only [Bool.and_eq_true, beq_iff_eq] at h1
    exact (hkeep _ h1.1).2 ((hasI_iff _ _).1 h1.2.2.2.1)
  · refine Ros.unique (admTo_ros _ _ _ (outTo_ros _ hra _) _) (admTo_ros _ _ _ (outTo_ros _ hra _) _) fun x => ?_
    rw [admTo_mem _ e _ _ (outTo_ros _ hra _) x _ hfS, admTo_mem D e _ _ (outTo_ros _ hra _) x len hfD, slim_ex D len (fun y => isRaise e _ _ y = true ∧ y.d = x)]
    refine or_congr Iff.rfl (exists_congr fun j => and_congr Iff.rfl ⟨fun h => h.2, fun h => ⟨?_, h⟩⟩)
    have h1 := h.1
    unfold isRaise at h1
    simp only [Bool.and_eq_true, beq_iff_eq] at h1
    exact (hkeep _ h1.1).2 ((outTo_all _ _ _).1 ((hasI_iff _ _).1 h1.2.2.1)).1
theorem slim_roster (hc : chainB D len = true) : ∀ k, k ≤ 20 → rosterL (fun i => (slimTo D len len).getD i evZ) (slimTo D len len).length k = rosterL D len k
  | 0, _ => rfl
  | k + 1, hk => by
    have ih := slim_roster hc k (by omega)
    show epochL _ _ _ (rosterL _ _ k) = epochL _ _ _ (rosterL D len k)
    rw [ih]
    exact slim_epoch D len hc k (by omega)
theorem slim_res {e : Int} (hr : rosB D len e = true) : rosB (fun i => (slimTo D len len).getD i evZ) (slimTo D len len).length e = true ∧ resR (fun i => (slimTo D len len).getD i evZ) (slimTo D len len).length e = resR D len e := by
  obtain ⟨hc, h0, h1⟩ := rosB_parts hr
  have hs := rosB_mk (slim_chain D len hc) h0 h1
  refine ⟨hs, ?_⟩
  rw [resR_yes hs, resR_yes hr]
  exact slim_roster D len hc _ (by omega)
end
end Go.Proofs.Ythdlgnbdppijkaa
