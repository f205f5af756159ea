/-
  Merging of beats, plainly: whichever come first, and which two of three. No condition.
-/
import Derived.Test.YtnjlegphohmajaaBdAP
import Derived.Test.YtnjlegphohmajaaBdS
namespace Go.Proofs.Ytnjlegphohmajaa
open Go.RowKit
set_option linter.unusedVariables false

theorem lessT_neg {x y z : ByteArray} (h1 : lessT y x = false) (h2 : lessT z y = false) : lessT z x = false := by
  unfold lessT at *
  cases hq : Op.bytesLess z.toList x.toList with
  | false => rfl
  | true =>
    by_cases e : z.toList = y.toList
    · rw [← e, hq] at h1; cases h1
    · have := bl_trans _ _ _ (bl_tri _ _ h2 e) hq
      rw [this] at h1; cases h1
theorem lessT_trans {x y z : ByteArray} (h1 : lessT x y = true) (h2 : lessT y z = true) : lessT x z = true := bl_trans _ _ _ h1 h2
theorem later_trans {x y z : Ev} (h1 : later x y = true) (h2 : later y z = true) : later x z = true := by
  unfold later at *
  by_cases e1 : x.b = y.b
  · rw [if_pos e1] at h1
    by_cases e2 : y.b = z.b
    · rw [if_pos e2] at h2
      rw [if_pos (by omega)]
      by_cases f1 : x.c = y.c
      · rw [if_pos f1] at h1
        by_cases f2 : y.c = z.c
        · rw [if_pos f2] at h2
          rw [if_pos (by omega)]
          exact lessT_trans h2 h1
        · rw [if_neg f2] at h2
          rw [if_neg (by omega)]
          simp at h2 ⊢; omega
      · rw [if_neg f1] at h1
        by_cases f2 : y.c = z.c
        · rw [if_neg (by omega)]
          simp at h1 ⊢; omega
        · rw [if_neg f2] at h2
          simp at h1 h2
          rw [if_neg (by omega)]
          simp; omega
    · rw [if_neg e2] at h2
      rw [if_neg (by omega)]
      simp at h2 ⊢; omega
  · rw [if_neg e1] at h1
    by_cases e2 : y.b = z.b
    · rw [if_neg (by omega)]
      simp at h1 ⊢; omega
    · rw [if_neg e2] at h2
      simp at h1 h2
      rw [if_neg (by omega)]
      simp; omega
theorem later_neg {x y z : Ev} (h1 : later z y = false) (h2 : later y x = false) : later z x = false := by
  unfold later at *
  by_cases e1 : z.b = y.b
  · rw [if_pos e1] at h1
    by_cases e2 : y.b = x.b
    · rw [if_pos e2] at h2
      rw [if_pos (by omega)]
      by_cases f1 : z.c = y.c
      · rw [if_pos f1] at h1
        by_cases f2 : y.c = x.c
        · rw [if_pos f2] at h2
          rw [if_pos (by omega)]
          exact lessT_neg h1 h2
        · rw [if_neg f2] at h2
          rw [if_neg (by omega)]
          simp at h2 ⊢; omega
      · rw [if_neg f1] at h1
        by_cases f2 : y.c = x.c
        · rw [if_neg (by omega)]
          simp at h1 ⊢; omega
        · rw [if_neg f2] at h2
          simp at h1 h2
          rw [if_neg (by omega)]
          simp; omega
    · rw [if_neg e2] at h2
      rw [if_neg (by omega)]
      simp at h2 ⊢; omega
  · rw [if_neg e1] at h1
    by_cases e2 : y.b = x.b
    · rw [if_neg (by omega)]
      simp at h1 ⊢; omega
    · rw [if_neg e2] at h2
      simp at h1 h2
      rw [if_neg (by omega)]
      simp; omega
theorem later_tri {x y : Ev} (h1 : later x y = false) (h2 : later y x = false) (ha : x.a = y.a) : x = y := by
  unfold later at *
  by_cases e1 : x.b = y.b
  · rw [if_pos e1] at h1
    rw [if_pos e1.symm] at h2
    by_cases f1 : x.c = y.c
    · rw [if_pos f1] at h1
      rw [if_pos f1.symm] at h2
      have e : x.d.toList = y.d.toList := by
        by_cases q : x.d.toList = y.d.toList
        · exact q
        · have := bl_tri _ _ h1 (fun e => q e.symm)
          unfold lessT at h2
          rw [this] at h2
          cases h2
      have hd : x.d = y.d := ByteArray.ext (Array.ext' (by simpa [ByteArray.toList_eq] using e))
      cases x; cases y
      simp_all
    · rw [if_neg f1] at h1
      rw [if_neg (fun e => f1 e.symm)] at h2
      simp at h1 h2
      omega
  · rw [if_neg e1] at h1
    rw [if_neg (fun e => e1 e.symm)] at h2
    simp at h1 h2
    omega
theorem later_asym {x y : Ev} (h : later x y = true) : later y x = false := by
  cases hq : later y x with
  | false => rfl
  | true =>
    have h1 := later_trans h hq
    unfold later at h1
    rw [if_pos rfl, if_pos rfl] at h1
    unfold lessT at h1
    rw [bl_irr] at h1
    cases h1
theorem pick_self (x : Ev) : pick x x = x := by unfold pick; split <;> rfl
theorem pick_comm {x y : Ev} (ha : x.a = y.a) : pick x y = pick y x := by
  unfold pick
  cases h1 : later x y with
  | true => rw [later_asym h1]; rfl
  | false =>
    cases h2 : later y x with
    | true => rfl
    | false => exact (later_tri h1 h2 ha).symm
theorem pick_assoc (x y z : Ev) : pick z (pick y x) = pick (pick z y) x := by
  unfold pick
  cases h1 : later y x with
  | true =>
    cases h2 : later z y with
    | true => simp [h2, later_trans h2 h1]
    | false => simp [h1, h2]
  | false =>
    cases h2 : later z y with
    | true => simp
    | false => simp [h1, later_neg h2 h1]

/-- of two beats of one, where there are any, the later one -/
def comb : Option Ev → Option Ev → Option Ev
  | none, q => q
  | some x, none => some x
  | some x, some y => some (pick y x)
theorem comb_none (p : Option Ev) : comb p none = p := by cases p <;> rfl
theorem comb_assoc (p q r : Option Ev) : comb (comb p q) r = comb p (comb q r) := by
  cases p with
  | none => rfl
  | some x =>
    cases q with
    | none => rfl
    | some y =>
      cases r with
      | none => rfl
      | some z => show some (pick z (pick y x)) = some (pick (pick z y) x); rw [pick_assoc]
theorem comb_comm {p q : Option Ev} (h : ∀ x y, p = some x → q = some y → x.a = y.a) : comb p q = comb q p := by
  cases p with
  | none => exact (comb_none q).symm
  | some x =>
    cases q with
    | none => rfl
    | some y => show some (pick y x) = some (pick x y); rw [pick_comm (h x y rfl rfl)]
theorem comb_self (p : Option Ev) : comb p p = p := by
  cases p with
  | none => rfl
  | some x => show some (pick x x) = some x; rw [pick_self]
theorem lookB_mg {S : List Ev} (hS : UpB S) {C : List Ev} (hC : UpB C) (z : Int) : ∀ k, k ≤ C.length → lookB (mgFrom S (fun i => C.getD i evZ) k) z = comb (lookB S z) (lookB (C.take k) z)
  | 0, _ => (comb_none _).symm
  | k + 1, hk => by
    have ih := lookB_mg hS hC z k (by omega)
    have hs := take_succ (L := C) (n := k) (by omega)
    have hu : UpB (C.take (k + 1)) := List.Pairwise.sublist (List.take_sublist _ _) hC
    rw [hs] at hu ⊢
    obtain ⟨_, _, h3⟩ := List.pairwise_append.1 hu
    show lookB (putB (mgFrom S (fun i => C.getD i evZ) k) (C.getD k evZ)) z = _
    rw [lookB_put _ _ _ (mgFrom_up hS _ k), lookB_snoc _ _ _ (fun x hx => h3 x hx _ (List.mem_singleton.2 rfl)), ih]
    by_cases e : z = (C.getD k evZ).a
    · have hn : lookB (C.take k) z = none := by
        unfold lookB
        rw [List.find?_eq_none]
        intro x hx
        have := h3 x hx _ (List.mem_singleton.2 rfl)
        simp
        omega
      rw [if_pos e, if_pos e.symm, hn, comb_none]
      cases lookB S z <;> rfl
    · rw [if_neg e, if_neg (fun q => e q.symm)]
/-- beats of two, merged -/
def mgA (A B : List Ev) : List Ev := mgL (fun i => A.getD i evZ) A.length (fun i => B.getD i evZ) B.length
theorem mgA_up (A B : List Ev) : UpB (mgA A B) := mgFrom_up (mgFrom_up List.Pairwise.nil _ _) _ _
theorem mgA_look {A B : List Ev} (hA : UpB A) (hB : UpB B) (z : Int) : lookB (mgA A B) z = comb (lookB A z) (lookB B z) := by
  unfold mgA mgL
  rw [mgFrom_list A hA, lookB_mg hA hB z B.length (Nat.le_refl _), List.take_length]
theorem upB_ext {L M : List Ev} (hL : UpB L) (hM : UpB M) (h : ∀ z, lookB L z = lookB M z) : L = M := by
  have e : L.map (·.a) = M.map (·.a) := upI_unique (List.pairwise_map.2 hL) (List.pairwise_map.2 hM) (fun z => by rw [← lookB_some, ← lookB_some, h z])
  have e2 : (fun z => (lookB L z).getD evZ) = fun z => (lookB M z).getD evZ := funext fun z => by rw [h z]
  rw [← lookB_all L hL, ← lookB_all M hM, e, e2]
theorem look_a {A B : List Ev} {z : Int} : ∀ x y, lookB A z = some x → lookB B z = some y → x.a = y.a := fun x y h1 h2 => by rw [(lookB_mem h1).2, (lookB_mem h2).2]
theorem mgA_comm {A B : List Ev} (hA : UpB A) (hB : UpB B) : mgA B A = mgA A B :=
  upB_ext (mgA_up _ _) (mgA_up _ _) fun z => by rw [mgA_look hB hA, mgA_look hA hB, comb_comm look_a]
theorem mgA_self {A : List Ev} (hA : UpB A) : mgA A A = A :=
  upB_ext (mgA_up _ _) hA fun z => by rw [mgA_look hA hA, comb_self]
theorem mgA_assoc {A B C : List Ev} (hA : UpB A) (hB : UpB B) (hC : UpB C) : mgA (mgA A B) C = mgA A (mgA B C) :=
  upB_ext (mgA_up _ _) (mgA_up _ _) fun z => by rw [mgA_look (mgA_up _ _) hC, mgA_look hA hB, mgA_look hA (mgA_up _ _), mgA_look hB hC, comb_assoc]
theorem mgA_mem {A B : List Ev} {x : Ev} (h : x ∈ mgA A B) : x ∈ A ∨ x ∈ B := by
  rcases mgFrom_mem _ _ _ _ h with h | ⟨i, hi, rfl⟩
  · rcases mgFrom_mem _ _ _ _ h with h | ⟨i, hi, rfl⟩
    · cases h
    · exact .inl (by rw [getD_get hi]; exact List.getElem_mem _)
  · exact .inr (by rw [getD_get hi]; exact List.getElem_mem _)
/-- rising beats of few are few -/
theorem few_len : ∀ (L : List Ev) (lo : Int), lo ≤ 6 → UpB L → (∀ x ∈ L, lo ≤ x.a ∧ x.a ≤ 5) → (L.length : Int) ≤ 6 - lo
  | [], lo, h, _, _ => by simp; omega
  | x :: l, lo, h, hu, hm => by
    obtain ⟨h1, h2⟩ := List.pairwise_cons.1 hu
    have hx := hm x (List.mem_cons_self ..)
    have := few_len l (x.a + 1) (by omega) h2 (fun y hy => ⟨by have := h1 y hy; omega, (hm y (List.mem_cons_of_mem _ hy)).2⟩)
    simp
    omega
theorem few5 {L : List Ev} (hu : UpB L) (hm : ∀ x ∈ L, 1 ≤ x.a ∧ x.a ≤ 5 ∧ x.in) : L.length ≤ 5 := by
  have := few_len L 1 (by omega) hu (fun x hx => ⟨(hm x hx).1, (hm x hx).2.1⟩)
  omega
/-- few, and right -/
def Few (L : List Ev) : Prop := beatsL L = true ∧ ∀ x ∈ L, 1 ≤ x.a ∧ x.a ≤ 5 ∧ x.in
theorem Few.mg {A B : List Ev} (hA : Few A) (hB : Few B) : Few (mgA A B) := by
  have hm : ∀ x ∈ mgA A B, 1 ≤ x.a ∧ x.a ≤ 5 ∧ x.in := fun x hx => (mgA_mem hx).elim (hA.2 x) (hB.2 x)
  exact ⟨beatsL_of (fun x hx => (mgA_mem hx).elim (beatsL_fine hA.1 x) (beatsL_fine hB.1 x)) (mgA_up _ _) (by have := few5 (mgA_up A B) hm; omega), hm⟩
def mgRA (A B : List Ev) : List Ev := mgR (fun i => A.getD i evZ) A.length (fun i => B.getD i evZ) B.length
theorem mgRA_is {A B : List Ev} (hA : beatsL A = true) (hB : beatsL B = true) : mgRA A B = mgA A B := by
  have h1 : beatsB (fun i => A.getD i evZ) A.length = true := hA
  have h2 : beatsB (fun i => B.getD i evZ) B.length = true := hB
  unfold mgRA mgR mgB
  rw [h1, h2]
  rfl
end Go.Proofs.Ytnjlegphohmajaa
