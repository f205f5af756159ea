/-
  Beats with one more beat of one: what both halves answer, plainly. No condition.
-/
import Derived.Test.YtnjlegphohmajaaBtMi
namespace Go.Proofs.Ytnjlegphohmajaa
open Go.RowKit Go.Maps
set_option linter.unusedVariables false

/-- a list of beats is right -/
def beatsL (L : List Ev) : Bool := beatsB (fun i => L.getD i evZ) L.length
/-- the beat that comes -/
def nextE (A : List Ev) (who at' : Int) (t : ByteArray) : Ev := ⟨who, ((lookB A who).getD evZ).b + 1, at', t⟩
def bnB (A : List Ev) (who at' : Int) (t : ByteArray) : Bool := beatsL A && beatsL (putB A (nextE A who at' t))
def bnR (A : List Ev) (who at' : Int) (t : ByteArray) : List Ev := if bnB A who at' t = true then putB A (nextE A who at' t) else []
theorem beatsL_len {L : List Ev} (h : beatsL L = true) : L.length ≤ 12 := beatsB_len h
theorem bnR_len (A : List Ev) (who at' : Int) (t : ByteArray) : (bnR A who at' t).length ≤ 12 := by
  unfold bnR
  split
  · rename_i h
    unfold bnB at h
    simp only [Bool.and_eq_true] at h
    exact beatsL_len h.2
  · simp
theorem getD_get {L : List Ev} {i : Nat} (h : i < L.length) : L.getD i evZ = L[i] := by simp [h]
theorem beatsL_fine {L : List Ev} (h : beatsL L = true) : ∀ x ∈ L, x.fine = true := fun x hx => by
  obtain ⟨i, hi, rfl⟩ := List.getElem_of_mem hx
  have := beatsB_fine h hi
  rw [← getD_get hi]; exact this
theorem beatsL_up {L : List Ev} (h : beatsL L = true) : UpB L := by
  have hs : ∀ j, j + 1 < L.length → (L.getD j evZ).a < (L.getD (j + 1) evZ).a := fun j hj => by
    unfold beatsL beatsB at h
    simp only [Bool.and_eq_true] at h
    have := allB_at h.2 hj
    unfold okAt at this
    simp only [Bool.and_eq_true, Bool.or_eq_true, beq_iff_eq, decide_eq_true_eq] at this
    rcases this.2 with h0 | h0
    · omega
    · simpa using h0
  have hall : ∀ d i, i + (d + 1) < L.length → (L.getD i evZ).a < (L.getD (i + (d + 1)) evZ).a := by
    intro d
    induction d with
    | zero => intro i hi; exact hs i hi
    | succ d ih =>
      intro i hi
      have h1 := ih i (by omega)
      have h2 := hs (i + (d + 1)) (by omega)
      have e : i + (d + 1) + 1 = i + (d + 1 + 1) := by omega
      rw [e] at h2
      omega
  unfold UpB
  rw [List.pairwise_iff_getElem]
  intro i j hi hj hij
  have := hall (j - i - 1) i (by omega)
  rw [show i + (j - i - 1 + 1) = j by omega, getD_get hi, getD_get hj] at this
  exact this
theorem putB_last (s : Ev) : ∀ L : List Ev, (∀ y ∈ L, y.a < s.a) → putB L s = L ++ [s]
  | [], _ => rfl
  | y :: l, h => by
    rw [putB, if_pos (h y (List.mem_cons_self ..)), putB_last s l (fun z hz => h z (List.mem_cons_of_mem _ hz))]
    rfl
theorem listD_succ (D : Nat → Ev) (k : Nat) : listD D (k + 1) = listD D k ++ [D k] := by
  unfold listD
  rw [List.range_succ, List.map_append]
  rfl
/-- rising beats, put in one by one, are themselves -/
theorem mgFrom_self (D : Nat → Ev) : ∀ k, UpB (listD D k) → mgFrom [] D k = listD D k
  | 0, _ => rfl
  | k + 1, h => by
    rw [listD_succ] at h ⊢
    obtain ⟨h1, _, h3⟩ := List.pairwise_append.1 h
    show putB (mgFrom [] D k) (D k) = _
    rw [mgFrom_self D k h1]
    exact putB_last _ _ (fun y hy => h3 y hy _ (List.mem_singleton.2 rfl))
theorem mgFrom_list (L : List Ev) (h : UpB L) : mgFrom [] (fun i => L.getD i evZ) L.length = L := by
  have := mgFrom_self (fun i => L.getD i evZ) L.length (by rw [listD_getD]; exact h)
  rw [this, listD_getD]
/-- what comes is the later one -/
theorem nextE_later {A : List Ev} {who at' : Int} {t : ByteArray} {y : Ev} (h : lookB A who = some y) : later (nextE A who at' t) y = true := by
  have e : (nextE A who at' t).b = y.b + 1 := by unfold nextE; rw [h]; rfl
  unfold later
  rw [if_neg (by omega)]
  simp
  omega
theorem nextE_mem {A : List Ev} (hA : UpB A) (who at' : Int) (t : ByteArray) : nextE A who at' t ∈ putB A (nextE A who at' t) := by
  have h := lookB_put (nextE A who at' t) who A hA
  rw [if_pos (show who = (nextE A who at' t).a from rfl)] at h
  cases hq : lookB A who with
  | none => rw [hq] at h; exact (lookB_mem h).1
  | some y =>
    rw [hq] at h
    have e : pick (nextE A who at' t) y = nextE A who at' t := by unfold pick; rw [if_pos (nextE_later hq)]
    have h' : lookB (putB A (nextE A who at' t)) who = some (pick (nextE A who at' t) y) := h
    rw [e] at h'
    exact (lookB_mem h').1
theorem bnB_spec {A : List Ev} (hA : beatsL A = true) (who at' : Int) (t : ByteArray) : bnB A who at' t = ((nextE A who at' t).fine && beatsL (putB A (nextE A who at' t))) := by
  unfold bnB
  rw [hA, Bool.true_and]
  cases hq : beatsL (putB A (nextE A who at' t)) with
  | false => simp
  | true => rw [beatsL_fine hq _ (nextE_mem (beatsL_up hA) who at' t)]; rfl
theorem one_fine (x : Ev) : beatsB (fun _ => x) 1 = x.fine := by
  unfold beatsB allB okAt
  simp
/-- the clock that the specification comes to behind k beats -/
def clkTo (A : List Ev) (who : Int) : Nat → Int
  | 0 => 1
  | k + 1 => if (A.getD k evZ).a = who then (A.getD k evZ).b + 1 else clkTo A who k
theorem lookB_snoc (L : List Ev) (y : Ev) (z : Int) (h : ∀ x ∈ L, x.a < y.a) : lookB (L ++ [y]) z = if y.a = z then some y else lookB L z := by
  unfold lookB
  rw [List.find?_append]
  by_cases e : y.a = z
  · have : L.find? (fun x => x.a == z) = none := by
      rw [List.find?_eq_none]
      intro x hx
      have := h x hx
      simp
      omega
    rw [this, if_pos e]
    simp [e]
  · rw [if_neg e]
    simp [e]
theorem clkTo_is {A : List Ev} (hA : UpB A) (who : Int) : ∀ k, k ≤ A.length → clkTo A who k = ((lookB (A.take k) who).getD evZ).b + 1
  | 0, _ => rfl
  | k + 1, hk => by
    have ih := clkTo_is hA who k (by omega)
    have hs := take_succ (L := A) (n := k) (by omega)
    have hu : UpB (A.take (k + 1)) := List.Pairwise.sublist (List.take_sublist _ _) hA
    rw [hs] at hu ⊢
    obtain ⟨_, _, h3⟩ := List.pairwise_append.1 hu
    rw [lookB_snoc _ _ _ (fun x hx => h3 x hx _ (List.mem_singleton.2 rfl)), clkTo]
    by_cases e : (A.getD k evZ).a = who
    · rw [if_pos e, if_pos e]; rfl
    · rw [if_neg e, if_neg e, ih]
theorem clkTo_end {A : List Ev} (hA : UpB A) (who : Int) : clkTo A who A.length = ((lookB A who).getD evZ).b + 1 := by
  rw [clkTo_is hA who A.length (Nat.le_refl _), List.take_length]
theorem clkTo_small {A : List Ev} (hA : beatsL A = true) (who : Int) : ∀ k, k ≤ A.length → 1 ≤ clkTo A who k ∧ clkTo A who k ≤ 1000001
  | 0, _ => by unfold clkTo; omega
  | k + 1, hk => by
    have ih := clkTo_small hA who k (by omega)
    have := beatsL_fine hA (A.getD k evZ) (by rw [getD_get (by omega)]; exact List.getElem_mem _)
    unfold Ev.fine inB at this
    simp only [Bool.and_eq_true, decide_eq_true_eq] at this
    unfold clkTo
    split
    · omega
    · exact ih
end Go.Proofs.Ytnjlegphohmajaa
