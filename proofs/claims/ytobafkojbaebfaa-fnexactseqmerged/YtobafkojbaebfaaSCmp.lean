/-
  The program's comparison of ops as a sort asks it, and what sorting and leaving out equal neighbours makes of two sequences. No condition.
-/
import Derived.Test.YtobafkojbaebfaaSMrg
namespace Go.Proofs.Ytobafkojbaebfaa
open Go.RowKit Go.Sort Go.Shelf
set_option linter.unusedVariables false

theorem nan_any (n : Int) (w : World) : Calls Try.prog 66 #[.int .i64 n] w fun e w' => e = .returned (.bool false) ∧ w' = w := by
  have e1 : (n != n) = false := by simp
  go_enter Try.func66, Try.ntmps66
  go_wp2
  go_ret
  exact ⟨rfl, rfl⟩

theorem compare_any (p q : Int) (w : World) : Calls Try.prog 49 #[.int .i64 p, .int .i64 q] w fun e w' => e = .returned (.int .i64 (Lib.compareInt p q)) ∧ w' = w := by
  by_cases h1 : p < q
  · have hr : Hid (Lib.compareInt p q = -1) := by show _ = _; unfold Lib.compareInt; rw [if_pos h1]
    go_enter Try.func49, Try.ntmps49
    go_wp2_with (go_at_call 66; refine (nan_any _ _).mono ?_; rintro e w1 ⟨rfl, rfl⟩)
    go_ret
    exact ⟨ret_int hr.out.symm, rfl⟩
  · have h1' : decide (p < q) = false := by simpa using h1
    by_cases h2 : q < p
    · have hr : Hid (Lib.compareInt p q = 1) := by show _ = _; unfold Lib.compareInt; rw [if_neg h1, if_pos h2]
      clear h1
      go_enter Try.func49, Try.ntmps49
      go_wp2_with (go_at_call 66; refine (nan_any _ _).mono ?_; rintro e w1 ⟨rfl, rfl⟩)
      go_ret
      exact ⟨ret_int hr.out.symm, rfl⟩
    · have hr : Hid (Lib.compareInt p q = 0) := by show _ = _; unfold Lib.compareInt; rw [if_neg h1, if_neg h2]
      have h2' : decide (q < p) = false := by simpa using h2
      clear h1 h2
      go_enter Try.func49, Try.ntmps49
      go_wp2_with (go_at_call 66; refine (nan_any _ _).mono ?_; rintro e w1 ⟨rfl, rfl⟩)
      go_ret
      exact ⟨ret_int hr.out.symm, rfl⟩


def cmpS (x y : Ev) : Int := Lib.compareInt x.a y.a
theorem grow2 (w : World) (o1 o2 : Obj) : (w.alloc o1).alloc o2 = grow (w.drewN 0) #[o1, o2] := by
  rw [alloc_eq_grow, alloc_eq_grow, grow_grow]
  rfl
set_option maxHeartbeats 1000000 in
theorem cmpOp_lays : CmpOk 48 cmpS := by
  intro x y w
  go_enter Try.func48, Try.ntmps48
  go_wp2_with (go_at_call 49; refine (compare_any _ _ _).mono ?_; rintro e w1 ⟨rfl, rfl⟩)
  go_ret
  exact ⟨rfl, 0, _, grow2 _ _ _⟩
theorem lt_ltS : Go.Proofs.ltOf cmpS = ltS := by
  funext x y
  unfold Go.Proofs.ltOf cmpS ltS Lib.compareInt
  by_cases h1 : x.a < y.a
  · simp [h1]
  · by_cases h2 : y.a < x.a <;> simp [h1, h2]
theorem swoS : SWO (Go.Proofs.ltOf cmpS) where
  irrefl x := by rw [lt_ltS]; unfold ltS; simp
  trans x y z h1 h2 := by rw [lt_ltS] at *; unfold ltS at *; simp at *; omega
  ntrans x y z h1 h2 := by rw [lt_ltS] at *; unfold ltS at *; simp at *; omega

/-- ops of rising Id -/
def UpS (L : List Ev) : Prop := L.Pairwise fun x y => x.a < y.a
/-- ops of one Id are one -/
def Agr (L : List Ev) : Prop := ∀ x ∈ L, ∀ y ∈ L, x.a = y.a → x = y
theorem UpS.nodup {L : List Ev} (h : UpS L) : L.Nodup := List.Pairwise.imp (fun {x y} hxy e => by subst e; omega) h
theorem upS_unique {l l' : List Ev} (h : UpS l) (h' : UpS l') (hm : ∀ x, x ∈ l ↔ x ∈ l') : l = l' :=
  List.Perm.eq_of_pairwise (le := fun a b : Ev => a.a < b.a) (fun a b _ _ h1 h2 => by omega) h h' ((List.perm_ext_iff_of_nodup h.nodup h'.nodup).2 hm)
theorem UpS.agr {L : List Ev} (h : UpS L) : Agr L := by
  intro x hx y hy he
  obtain ⟨i, hi, rfl⟩ := List.getElem_of_mem hx
  obtain ⟨j, hj, rfl⟩ := List.getElem_of_mem hy
  unfold UpS at h
  rw [List.pairwise_iff_getElem] at h
  rcases Nat.lt_trichotomy i j with hlt | heq | hlt
  · have := h i j hi hj hlt; omega
  · subst heq; rfl
  · have := h j i hj hi hlt; omega
theorem seqL_up {L : List Ev} (h : seqL L = true) : UpS L := by
  unfold seqL seqB at h
  simp only [Bool.and_eq_true] at h
  unfold UpS
  rw [List.pairwise_iff_getElem]
  intro i j hi hj hij
  have := rise_lt h.2 (j - i - 1) i (by omega)
  rw [show i + (j - i - 1) + 1 = j by omega] at this
  simpa [List.getD_eq_getElem?_getD, hi, hj] using this
theorem same_eq {x y : Ev} (h : Ev.same x y = true) : x = y := (same_iff x y).1 h
theorem putS_iff (s x : Ev) : ∀ L : List Ev, Agr (s :: L) → (x ∈ putS L s ↔ x ∈ L ∨ x = s)
  | [], _ => by simp [putS]
  | y :: l, hA => by
    have hl : Agr (s :: l) := fun a ha b hb => hA a (by
      rcases List.mem_cons.1 ha with h | h
      · rw [h]; exact List.mem_cons_self
      · exact List.mem_cons_of_mem _ (List.mem_cons_of_mem _ h)) b (by
      rcases List.mem_cons.1 hb with h | h
      · rw [h]; exact List.mem_cons_self
      · exact List.mem_cons_of_mem _ (List.mem_cons_of_mem _ h))
    unfold putS
    split
    · rw [List.mem_cons, putS_iff s x l hl, List.mem_cons, or_assoc]
    · split
      · rename_i h
        have he : y = s := hA y (List.mem_cons_of_mem _ List.mem_cons_self) s List.mem_cons_self (by unfold idS at h; simpa using h)
        subst he
        simp only [List.mem_cons]
        constructor
        · exact fun h => .inl h
        · rintro (h | h)
          · exact h
          · exact .inl h
      · simp only [List.mem_cons]
        constructor
        · rintro (h | h | h)
          · exact .inr h
          · exact .inl (.inl h)
          · exact .inl (.inr h)
        · rintro ((h | h) | h)
          · exact .inr (.inl h)
          · exact .inr (.inr h)
          · exact .inl h
theorem putS_up (s : Ev) : ∀ L : List Ev, UpS L → UpS (putS L s)
  | [], _ => by simp [putS, UpS]
  | x :: l, h => by
    obtain ⟨h1, h2⟩ := List.pairwise_cons.1 h
    unfold putS
    split
    · rename_i hx
      refine List.pairwise_cons.2 ⟨fun y hy => ?_, putS_up s l h2⟩
      rcases putS_mem s y l hy with h' | rfl
      · exact h1 y h'
      · unfold ltS at hx; simpa using hx
    · rename_i hx
      split
      · exact h
      · rename_i hne
        have hsx : s.a < x.a := by
          unfold ltS at hx
          unfold idS at hne
          simp at hx hne
          omega
        refine List.pairwise_cons.2 ⟨fun y hy => ?_, h⟩
        rcases List.mem_cons.1 hy with rfl | h'
        · exact hsx
        · have := h1 y h'; omega
theorem Agr.sub {L M : List Ev} (h : Agr L) (hs : ∀ x ∈ M, x ∈ L) : Agr M := fun x hx y hy => h x (hs x hx) y (hs y hy)
theorem mergeS_up (A : List Ev) (hA : UpS A) : ∀ B : List Ev, UpS (mergeS A B) := by
  intro B
  induction B generalizing A with
  | nil => exact hA
  | cons x l ih => exact ih (putS A x) (putS_up x A hA)
theorem mergeS_iff (x : Ev) : ∀ (B A : List Ev), Agr (A ++ B) → (x ∈ mergeS A B ↔ x ∈ A ∨ x ∈ B) := by
  intro B
  induction B with
  | nil => intro A _; simp [mergeS]
  | cons y l ih =>
    intro A hA
    have h1 : Agr (y :: A) := hA.sub fun z hz => by
      rcases List.mem_cons.1 hz with h | h
      · rw [h]; exact List.mem_append_right _ List.mem_cons_self
      · exact List.mem_append_left _ h
    have h2 : Agr (putS A y ++ l) := hA.sub fun z hz => by
      rcases List.mem_append.1 hz with h | h
      · rcases putS_mem y z A h with h | h
        · exact List.mem_append_left _ h
        · rw [h]; exact List.mem_append_right _ List.mem_cons_self
      · exact List.mem_append_right _ (List.mem_cons_of_mem _ h)
    show x ∈ mergeS (putS A y) l ↔ _
    rw [ih (putS A y) h2, putS_iff y x A h1, List.mem_cons, or_assoc]

theorem keepAt_no {L : List Ev} {n : Nat} (h : keepAt L n = false) : n ≠ 0 ∧ L.getD n evZ = L.getD (n - 1) evZ := by
  unfold keepAt at h
  rw [Bool.or_eq_false_iff] at h
  refine ⟨by have := h.1; simpa using this, same_eq (by have := h.2; simpa only [Bool.not_eq_false'] using this)⟩
theorem cptTo_sub (L : List Ev) (n : Nat) (hn : n ≤ L.length) : ∀ x ∈ cptTo L n, x ∈ L := by
  intro x hx
  unfold cptTo at hx
  obtain ⟨i, hi, rfl⟩ := List.mem_map.1 hx
  have := List.mem_range.1 (List.mem_filter.1 hi).1
  simp [List.getD_eq_getElem?_getD, show i < L.length by omega]
/-- what is left of a list that is sorted by Id, ops of one Id being one, rises -/
theorem cptTo_upS (L : List Ev) (hA : Agr L) (hs : ∀ i j, i < j → j < L.length → ltS (L.getD j evZ) (L.getD i evZ) = false) : ∀ n, n ≤ L.length → UpS (cptTo L n) ∧ (0 < n → ∃ l, cptTo L n = l ++ [L.getD (n - 1) evZ])
  | 0, _ => ⟨List.Pairwise.nil, fun h => absurd h (Nat.lt_irrefl _)⟩
  | n + 1, hn => by
    obtain ⟨h1, h3⟩ := cptTo_upS L hA hs n (by omega)
    have mem : ∀ i, i < L.length → L.getD i evZ ∈ L := fun i hi => by simp [List.getD_eq_getElem?_getD, hi]
    by_cases hk : keepAt L n = true
    · rw [cptTo_yes hk]
      refine ⟨?_, fun _ => ⟨cptTo L n, rfl⟩⟩
      refine List.pairwise_append.2 ⟨h1, by simp, fun x hx y hy => ?_⟩
      simp only [List.mem_singleton] at hy
      subst hy
      by_cases hn0 : n = 0
      · subst hn0; simp [cptTo] at hx
      · have hlast : (L.getD (n - 1) evZ).a < (L.getD n evZ).a := by
          have h5 := hs (n - 1) n (by omega) (by omega)
          unfold ltS at h5
          simp only [decide_eq_false_iff_not] at h5
          by_cases he : (L.getD (n - 1) evZ).a = (L.getD n evZ).a
          · have := hA _ (mem (n - 1) (by omega)) _ (mem n (by omega)) he
            unfold keepAt at hk
            rw [this, Ev.same_refl] at hk
            simp at hk
            exact absurd hk hn0
          · omega
        obtain ⟨l, hl⟩ := h3 (by omega)
        rw [hl] at hx h1
        rcases List.mem_append.1 hx with hx | hx
        · have := (List.pairwise_append.1 h1).2.2 x hx _ (List.mem_singleton_self _)
          omega
        · simp only [List.mem_singleton] at hx
          subst hx
          exact hlast
    · have hk' : keepAt L n = false := by simpa using hk
      rw [cptTo_no hk']
      refine ⟨h1, fun _ => ?_⟩
      obtain ⟨hn0, he⟩ := keepAt_no hk'
      obtain ⟨l, hl⟩ := h3 (by omega)
      exact ⟨l, by rw [hl, show n + 1 - 1 = n by omega, he]⟩
theorem cptTo_mem (L : List Ev) : ∀ n, n ≤ L.length → ∀ i, i < n → L.getD i evZ ∈ cptTo L n
  | 0, _, i, hi => absurd hi (Nat.not_lt_zero _)
  | n + 1, hn, i, hi => by
    by_cases hk : keepAt L n = true
    · rw [cptTo_yes hk]
      rcases Nat.lt_succ_iff_lt_or_eq.1 hi with h | rfl
      · exact List.mem_append_left _ (cptTo_mem L n (by omega) i h)
      · exact List.mem_append_right _ (List.mem_singleton_self _)
    · have hk' : keepAt L n = false := by simpa using hk
      rw [cptTo_no hk']
      rcases Nat.lt_succ_iff_lt_or_eq.1 hi with h | rfl
      · exact cptTo_mem L n (by omega) i h
      · obtain ⟨hn0, he⟩ := keepAt_no hk'
        rw [he]
        exact cptTo_mem L i (by omega) (i - 1) (by omega)


theorem cptL_mem (L : List Ev) (x : Ev) : x ∈ cptL L ↔ x ∈ L := by
  constructor
  · exact cptTo_sub L L.length (Nat.le_refl _) x
  · intro hx
    obtain ⟨i, hi, rfl⟩ := List.getElem_of_mem hx
    have := cptTo_mem L L.length (Nat.le_refl _) i hi
    show _ ∈ cptTo L L.length
    simpa [List.getD_eq_getElem?_getD, hi] using this

/-- sorting both and leaving out equal neighbours gives a right sequence just where no Id has unlike ops and putting the ones into the others does, and then it is that -/
theorem sorted_mergeS {A B L : List Ev} (hA : seqL A = true) (hB : seqL B = true) (hp : L.Perm (A ++ B)) (hs : ∀ i j, i < j → j < L.length → ltS (L.getD j evZ) (L.getD i evZ) = false) :
    seqL (cptL L) = (allB (fun i => okB A (B.getD i evZ)) B.length && seqL (mergeS A B)) ∧ (seqL (cptL L) = true → cptL L = mergeS A B) := by
  have upA := seqL_up hA
  have upB := seqL_up hB
  cases hok : allB (fun i => okB A (B.getD i evZ)) B.length with
  | true =>
    have agr : Agr (A ++ B) := by
      have cross : ∀ x ∈ A, ∀ y ∈ B, x.a = y.a → x = y := by
        intro x hx y hy he
        obtain ⟨k, hk, rfl⟩ := List.getElem_of_mem hy
        have h1 := allB_at hok hk
        have hg : B.getD k evZ = B[k] := by simp [List.getD_eq_getElem?_getD, hk]
        rw [hg] at h1
        obtain ⟨i, hi, rfl⟩ := List.getElem_of_mem hx
        have hgi : A.getD i evZ = A[i] := by simp [List.getD_eq_getElem?_getD, hi]
        cases hf : firstA (fun i => A.getD i evZ) (B[k]).a A.length with
        | none => exact absurd (by rw [hgi]; exact he) (firstA_none hf i hi)
        | some j =>
          rw [okB_some hf] at h1
          obtain ⟨hj, hja⟩ := firstA_some hf
          have hgj : A.getD j evZ = A[j] := by simp [List.getD_eq_getElem?_getD, hj]
          rw [hgj] at h1 hja
          rw [← same_eq h1]
          exact upA.agr _ hx _ (List.getElem_mem hj) (by rw [hja]; exact he)
      intro x hx y hy he
      rcases List.mem_append.1 hx with hx | hx
      · rcases List.mem_append.1 hy with hy | hy
        · exact upA.agr x hx y hy he
        · exact cross x hx y hy he
      · rcases List.mem_append.1 hy with hy | hy
        · exact (cross y hy x hx he.symm).symm
        · exact upB.agr x hx y hy he
    have agrL : Agr L := agr.sub fun x hx => hp.mem_iff.1 hx
    have he : cptL L = mergeS A B := by
      refine upS_unique (cptTo_upS L agrL hs L.length (Nat.le_refl _)).1 (mergeS_up A upA B) fun x => ?_
      rw [mergeS_iff x B A agr, ← List.mem_append, ← hp.mem_iff]
      exact cptL_mem L x
    rw [he]
    exact ⟨rfl, fun _ => rfl⟩
  | false =>
    have hno : seqL (cptL L) = false := by
      cases hc : seqL (cptL L) with
      | false => rfl
      | true =>
        exfalso
        have agr := (seqL_up hc).agr
        have : allB (fun i => okB A (B.getD i evZ)) B.length = true := by
          unfold allB
          rw [List.all_eq_true]
          intro k hk
          have hk := List.mem_range.1 hk
          show okB A (B.getD k evZ) = true
          cases hf : firstA (fun i => A.getD i evZ) (B.getD k evZ).a A.length with
          | none => exact okB_none hf
          | some j =>
            rw [okB_some hf]
            obtain ⟨hj, hja⟩ := firstA_some hf
            have hxA : A.getD j evZ ∈ A := by simp [List.getD_eq_getElem?_getD, hj]
            have hyB : B.getD k evZ ∈ B := by simp [List.getD_eq_getElem?_getD, hk]
            have e := agr _ ((cptL_mem L _).2 (hp.mem_iff.2 (List.mem_append_left _ hxA))) _ ((cptL_mem L _).2 (hp.mem_iff.2 (List.mem_append_right _ hyB))) hja
            rw [e]
            exact Ev.same_refl _
        rw [hok] at this
        cases this
    rw [hno]
    exact ⟨rfl, fun h => by cases h⟩
theorem cptL_in {A B L : List Ev} (hp : L.Perm (A ++ B)) (hA : InL A) (hB : InL B) : InL (cptL L) := InL.of fun x hx => by
  rcases List.mem_append.1 (hp.mem_iff.1 ((cptL_mem L x).1 hx)) with h | h
  · exact hA.mem h
  · exact hB.mem h
end Go.Proofs.Ytobafkojbaebfaa
