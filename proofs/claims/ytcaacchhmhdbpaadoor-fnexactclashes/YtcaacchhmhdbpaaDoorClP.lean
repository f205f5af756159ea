/-
  Who clashes, by the first heads that were told under each number: plain. And the keys of the program's map. No condition.
-/
import Derived.Test.YtcaacchhmhdbpaaDoorIRise
import Derived.DeepKeys4
namespace Go.Proofs.YtcaacchhmhdbpaaDoor
open Go.RowKit Go.Maps
set_option linter.unusedVariables false

theorem sameB_iff (S : Nat → ByteArray) (n : Nat) (S' : Nat → ByteArray) (n' : Nat) : sameB S n S' n' = true ↔ n = n' ∧ ∀ i, i < n → (S i).toList = (S' i).toList := by
  unfold sameB allB
  simp only [Bool.and_eq_true, decide_eq_true_eq, List.all_eq_true, List.mem_range, beq_iff_eq]
theorem sameB_refl (S : Nat → ByteArray) (n : Nat) : sameB S n S n = true := (sameB_iff S n S n).2 ⟨rfl, fun _ _ => rfl⟩

/-- two commitments of one author under one number -/
def Twin (C : Nat → Cm) (i j : Nat) : Prop := (C i).a = (C j).a ∧ (C i).c = (C j).c
/-- f is the first one like i -/
def IsFirst (C : Nat → Cm) (f i : Nat) : Prop := f ≤ i ∧ Twin C f i ∧ ∀ j, j < f → ¬ Twin C j i
theorem first_ex (C : Nat → Cm) (i : Nat) : ∃ f, IsFirst C f i := by
  have key : ∀ n, Twin C n i → ∃ f, f ≤ n ∧ Twin C f i ∧ ∀ j, j < f → ¬ Twin C j i := by
    intro n
    induction n using Nat.strongRecOn with
    | _ n ih =>
      intro hn
      by_cases h : ∃ j, j < n ∧ Twin C j i
      · obtain ⟨j, hj, hj2⟩ := h
        obtain ⟨f, h1, h2, h3⟩ := ih j hj hj2
        exact ⟨f, by omega, h2, h3⟩
      · exact ⟨n, Nat.le_refl _, hn, fun j hj ht => h ⟨j, hj, ht⟩⟩
  exact key i ⟨rfl, rfl⟩
theorem first_unique {C : Nat → Cm} {f f' i : Nat} (h : IsFirst C f i) (h' : IsFirst C f' i) : f = f' := by
  rcases Nat.lt_trichotomy f f' with hl | rfl | hl
  · exact absurd h.2.1 (h'.2.2 f hl)
  · rfl
  · exact absurd h'.2.1 (h.2.2 f' hl)
theorem Twin.trans {C : Nat → Cm} {i j k : Nat} (h : Twin C i j) (h' : Twin C j k) : Twin C i k := ⟨h.1.trans h'.1, h.2.trans h'.2⟩
theorem Twin.symm {C : Nat → Cm} {i j : Nat} (h : Twin C i j) : Twin C j i := ⟨h.1.symm, h.2.symm⟩
theorem first_twin {C : Nat → Cm} {f i j : Nat} (h : IsFirst C f i) (ht : Twin C i j) (hij : i ≤ j) : IsFirst C f j :=
  ⟨Nat.le_trans h.1 hij, h.2.1.trans ht, fun k hk hkj => h.2.2 k hk (hkj.trans ht.symm)⟩

/-- of the first k one of author x has other heads than the first one like it -/
def Clash (C : Nat → Cm) (k : Nat) (x : Int) : Prop := ∃ i, i < k ∧ (C i).a = x ∧ ∃ f, IsFirst C f i ∧ sameB (C f).S (C f).n (C i).S (C i).n = false

theorem rowB_iff (C : Nat → Cm) (who : Int) (i : Nat) : ∀ k, rowB C who i k = true ↔ ∃ j, j < k ∧ pairB C who i j = true
  | 0 => by simp [rowB]
  | k + 1 => by
    rw [rowB, Bool.or_eq_true, rowB_iff C who i k]
    constructor
    · rintro (⟨j, hj, h⟩ | h)
      · exact ⟨j, by omega, h⟩
      · exact ⟨k, by omega, h⟩
    · rintro ⟨j, hj, h⟩
      rcases Nat.lt_succ_iff_lt_or_eq.1 hj with h1 | rfl
      · exact .inl ⟨j, h1, h⟩
      · exact .inr h
theorem hitB_iff (C : Nat → Cm) (who : Int) : ∀ m, hitB C who m = true ↔ ∃ i, i < m ∧ ∃ j, j < i ∧ pairB C who i j = true
  | 0 => by simp [hitB]
  | m + 1 => by
    rw [hitB, Bool.or_eq_true, hitB_iff C who m, rowB_iff]
    constructor
    · rintro (⟨i, hi, h⟩ | h)
      · exact ⟨i, by omega, h⟩
      · exact ⟨m, by omega, h⟩
    · rintro ⟨i, hi, h⟩
      rcases Nat.lt_succ_iff_lt_or_eq.1 hi with h1 | rfl
      · exact .inl ⟨i, h1, h⟩
      · exact .inr h
theorem pairB_iff (C : Nat → Cm) (who : Int) (i j : Nat) : pairB C who i j = true ↔ (C i).a = who ∧ (C j).a = who ∧ (C i).c = (C j).c ∧ sameB (C i).S (C i).n (C j).S (C j).n = false := by
  unfold pairB
  simp only [Bool.and_eq_true, beq_iff_eq, Bool.not_eq_true']

theorem clash_hit (C : Nat → Cm) (m : Nat) (x : Int) : Clash C m x ↔ hitB C x m = true := by
  rw [hitB_iff]
  constructor
  · rintro ⟨i, hi, hx, f, hf, hs⟩
    have hne : f ≠ i := fun e => by
      subst e
      rw [sameB_refl] at hs
      cases hs
    have hlt : f < i := by have := hf.1; omega
    refine ⟨i, hi, f, hlt, (pairB_iff C x i f).2 ⟨hx, hf.2.1.1.trans hx, hf.2.1.2.symm, ?_⟩⟩
    cases hq : sameB (C i).S (C i).n (C f).S (C f).n with
    | false => rfl
    | true =>
      obtain ⟨h1, h2⟩ := (sameB_iff _ _ _ _).1 hq
      have : sameB (C f).S (C f).n (C i).S (C i).n = true := (sameB_iff _ _ _ _).2 ⟨h1.symm, fun t ht => (h2 t (by omega)).symm⟩
      rw [hs] at this
      cases this
  · rintro ⟨i, hi, j, hj, hp⟩
    obtain ⟨h1, h2, h3, h4⟩ := (pairB_iff C x i j).1 hp
    obtain ⟨f, hf⟩ := first_ex C j
    have hfi : IsFirst C f i := first_twin hf ⟨h2.trans h1.symm, h3.symm⟩ (by omega)
    cases hq : sameB (C f).S (C f).n (C j).S (C j).n with
    | false => exact ⟨j, by omega, h2, f, hf, hq⟩
    | true =>
      refine ⟨i, hi, h1, f, hfi, ?_⟩
      cases hq2 : sameB (C f).S (C f).n (C i).S (C i).n with
      | false => rfl
      | true =>
        obtain ⟨e1, e2⟩ := (sameB_iff _ _ _ _).1 hq
        obtain ⟨g1, g2⟩ := (sameB_iff _ _ _ _).1 hq2
        have : sameB (C i).S (C i).n (C j).S (C j).n = true := (sameB_iff _ _ _ _).2 ⟨by omega, fun t ht => (g2 t (by omega)).symm.trans (e2 t (by omega))⟩
        rw [h4] at this
        cases this

theorem clL_mem (C : Nat → Cm) (m : Nat) (x : Int) : ∀ q, x ∈ clL C m q ↔ 1 ≤ x ∧ x ≤ (q : Int) ∧ hitB C x m = true
  | 0 => by simp [clL]; intro h1 h2; omega
  | q + 1 => by
    have ih := clL_mem C m x q
    by_cases h : hitB C ((q + 1 : Nat) : Int) m = true
    · rw [clL, if_pos h, List.mem_append, ih, List.mem_singleton]
      constructor
      · rintro (⟨h1, h2, h3⟩ | rfl)
        · exact ⟨h1, by omega, h3⟩
        · exact ⟨by omega, by omega, h⟩
      · rintro ⟨h1, h2, h3⟩
        by_cases he : x = ((q + 1 : Nat) : Int)
        · exact .inr he
        · exact .inl ⟨h1, by omega, h3⟩
    · rw [clL, if_neg h, ih]
      constructor
      · rintro ⟨h1, h2, h3⟩
        exact ⟨h1, by omega, h3⟩
      · rintro ⟨h1, h2, h3⟩
        refine ⟨h1, ?_, h3⟩
        by_cases he : x = ((q + 1 : Nat) : Int)
        · subst he; exact absurd h3 h
        · omega
theorem clL_up (C : Nat → Cm) (m : Nat) : ∀ q, UpI (clL C m q)
  | 0 => by simp [clL, UpI]
  | q + 1 => by
    have ih := clL_up C m q
    by_cases h : hitB C ((q + 1 : Nat) : Int) m = true
    · rw [clL, if_pos h]
      unfold UpI
      rw [List.pairwise_append]
      refine ⟨ih, by simp, fun x hx y hy => ?_⟩
      have h1 := (clL_mem C m x q).1 hx
      simp only [List.mem_singleton] at hy
      subst hy
      omega
    · rw [clL, if_neg h]
      exact ih

/-- the key under which heads are kept -/
def kT (a c : Int) : Lit := .string (keyBytes [.int .i64 a, .int .i64 c])
theorem kT_is (a c : Int) : WideAt.IsKeyLit (kT a c) := trivial
theorem laidOutT : laidOutB Tryd.prog = true := by kernel_rfl
theorem lawT : Keyed Tryd.prog 50 := Keyed.of_law (deep_law_laid laidOutT (m := 2) (by omega) (of_decide_eq_true (by kernel_rfl)) (by kernel_rfl) (by rw [Tryd.underlying50]))
theorem cellsT2 : Tryd.prog.cellsOf 2 = 1 := by kernel_rfl
theorem cellsT : Tryd.prog.cellsOf 50 = 2 := by kernel_rfl
theorem keyTypeT : Tryd.prog.keyType 50 = true := by kernel_rfl
theorem sizeT : ∃ d, Tryd.prog.types.size + 1 = d + 2 := ⟨Tryd.prog.types.size - 1, by
  have : 0 < Tryd.prog.types.size := of_decide_eq_true (by kernel_rfl)
  omega⟩
theorem keyT {a c : Int} (ha : (Lit.int .i64 a).wf = true) (hc : (Lit.int .i64 c).wf = true) : keyOf Tryd.prog 50 (.agg #[.int .i64 a, .int .i64 c]) = some (kT a c) := by
  obtain ⟨d, hd⟩ := sizeT
  have h1 : Tryd.prog.keyLits (d + 2) 50 [.int .i64 a, .int .i64 c] = some [.int .i64 a, .int .i64 c] := by
    simp [Program.keyLits, Tryd.underlying50, cellsT, cellsT2, Tryd.underlying2, ha, hc]
  have h2 : Value.formed Tryd.prog 50 (.agg #[.int .i64 a, .int .i64 c]) = true := by
    simp [Value.formed, Tryd.underlying50, cellsT]
  unfold keyOf
  rw [Tryd.underlying50]
  simp only [keyTypeT, h2, hd]
  simp [Value.cells, h1, kT]
theorem kT_inj {a c a' c' : Int} (ha : (Lit.int .i64 a).wf = true) (hc : (Lit.int .i64 c).wf = true) (ha' : (Lit.int .i64 a').wf = true) (hc' : (Lit.int .i64 c').wf = true) (h : kT a c = kT a' c') : a = a' ∧ c = c' := by
  have := lawT.inj (keyT ha hc) (by rw [keyT ha' hc', h])
  simpa using this
end Go.Proofs.YtcaacchhmhdbpaaDoor
