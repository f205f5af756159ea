/-
  What a sequence shows stands in one order in whatever bigger one has all its ops, plainly. No condition.
-/
import Derived.Test.YtjfciokpnhnhbaaSqM3
namespace Go.Proofs.Ytjfciokpnhnhbaa
open Go.RowKit
set_option linter.unusedVariables false

theorem seqG {L : List Ev} (h : seqL L = true) : seqB (gD L) L.length = true := h
theorem okG {L : List Ev} (h : seqL L = true) : allB (okS (gD L)) L.length = true := (seqB_parts (seqG h)).2
theorem mem_gD {L : List Ev} {i : Nat} (h : i < L.length) : gD L i ∈ L := by
  unfold gD
  rw [List.getD_eq_getElem?_getD, List.getElem?_eq_getElem h]
  simp
theorem gD_mem {L : List Ev} {x : Ev} (h : x ∈ L) : ∃ i, i < L.length ∧ gD L i = x := by
  obtain ⟨i, hi, rfl⟩ := List.getElem_of_mem h
  exact ⟨i, hi, by unfold gD; rw [List.getD_eq_getElem?_getD, List.getElem?_eq_getElem hi]; rfl⟩
theorem ins_iff {L : List Ev} {y : Int} : insB (gD L) L.length y = true ↔ ∃ o ∈ L, o.b = 1 ∧ o.a = y := by
  rw [insB_iff]
  constructor
  · rintro ⟨j, hj, h1, h2⟩
    exact ⟨_, mem_gD hj, h1, h2⟩
  · rintro ⟨o, ho, h1, h2⟩
    obtain ⟨i, hi, rfl⟩ := gD_mem ho
    exact ⟨i, hi, h1, h2⟩
theorem kids_iff {L : List Ev} {y z : Int} : y ∈ kids (gD L) L.length z ↔ ∃ o ∈ L, o.b = 1 ∧ o.c = z ∧ o.a = y := by
  constructor
  · intro h
    obtain ⟨j, hj, h1, h2, h3⟩ := kid_in h
    exact ⟨_, mem_gD hj, h1, h2, h3⟩
  · rintro ⟨o, ho, h1, h2, h3⟩
    obtain ⟨i, hi, rfl⟩ := gD_mem ho
    have := kid_of hi h1
    rw [h2, h3] at this
    exact this
theorem kids_up {D : Nat → Ev} {n : Nat} (hok : allB (okS D) n = true) (z : Int) : ∀ i, i ≤ n → (kids D i z).Pairwise (· < ·) := by
  intro i
  induction i with
  | zero => intro _; exact List.Pairwise.nil
  | succ i ih =>
    intro hi
    cases h : ((D i).b == 1 && (D i).c == z) with
    | false => rw [kids_no h]; exact ih (by omega)
    | true =>
      rw [kids_yes h]
      refine List.pairwise_append.2 ⟨ih (by omega), List.pairwise_singleton _ _, fun x hx y hy => ?_⟩
      have hy' : y = (D i).a := by simpa using hy
      obtain ⟨j, hj, _, _, e⟩ := kid_in hx
      have := rise_lt hok (i - j - 1) j (by omega)
      rw [show j + (i - j - 1) + 1 = i by omega] at this
      omega
theorem up_uniq {l l' : List Int} (h : l.Pairwise (· < ·)) (h' : l'.Pairwise (· < ·)) (hm : ∀ x, x ∈ l ↔ x ∈ l') : l = l' :=
  List.Perm.eq_of_pairwise (le := fun a b : Int => a < b) (fun a b _ _ h1 h2 => by omega) h h' ((List.perm_ext_iff_of_nodup (List.Pairwise.imp (fun {x y} hxy e => by omega) h) (List.Pairwise.imp (fun {x y} hxy e => by omega) h')).2 hm)
theorem kids_sub {A M : List Ev} (hA : seqL A = true) (hM : seqL M = true) (hs : ∀ x ∈ A, x ∈ M) (z : Int) : (kids (gD M) M.length z).filter (fun y => insB (gD A) A.length y) = kids (gD A) A.length z := by
  refine up_uniq ((kids_up (okG hM) z _ (Nat.le_refl _)).filter _) (kids_up (okG hA) z _ (Nat.le_refl _)) (fun y => ?_)
  rw [List.mem_filter]
  constructor
  · rintro ⟨h1, h2⟩
    obtain ⟨o, ho, hb, hc, ha⟩ := kids_iff.1 h1
    obtain ⟨o', ho', hb', ha'⟩ := ins_iff.1 h2
    have : o' = o := (seqL_up hM).agr o' (hs o' ho') o ho (by omega)
    subst this
    exact kids_iff.2 ⟨o', ho', hb, hc, ha⟩
  · intro h
    obtain ⟨o, ho, hb, hc, ha⟩ := kids_iff.1 h
    exact ⟨kids_iff.2 ⟨o, hs o ho, hb, hc, ha⟩, ins_iff.2 ⟨o, ho, hb, ha⟩⟩
theorem ins_up {A M : List Ev} (hA : seqL A = true) (hM : seqL M = true) (hs : ∀ x ∈ A, x ∈ M) (y : Int) (hy : 1 ≤ y) : ∀ (f : Nat) (x : Int), x ≤ f → x ∈ ord (gD M) M.length y → insB (gD A) A.length x = true → insB (gD A) A.length y = true := by
  intro f
  induction f with
  | zero =>
    intro x hx h _
    have := (ord_gt (okG hM) y x h).1
    omega
  | succ f ih =>
    intro x hx h hi
    obtain ⟨p, hp, hpy⟩ := ord_par (okG hM) y x h
    have hlt := kid_lt (okG hM) hp
    obtain ⟨o, ho, hb, hc, ha⟩ := kids_iff.1 hp
    obtain ⟨o', ho', hb', ha'⟩ := ins_iff.1 hi
    have : o' = o := (seqL_up hM).agr o' (hs o' ho') o ho (by omega)
    subst this
    obtain ⟨i, hil, e⟩ := gD_mem ho'
    have h1 := allB_at (okG hA) hil
    unfold okS kindB at h1
    rw [e, if_pos hb] at h1
    simp only [Bool.and_eq_true, Bool.or_eq_true, beq_iff_eq] at h1
    have hpp : 1 ≤ p := by
      rcases hpy with rfl | hpy
      · exact hy
      · have := (ord_gt (okG hM) y p hpy).1
        omega
    have hip : insB (gD A) A.length p = true := by
      rcases h1.2.2 with h0 | h0
      · omega
      · rw [hc] at h0
        obtain ⟨j, hj, q1, q2⟩ := insB_iff.1 h0
        exact insB_iff.2 ⟨j, by omega, q1, q2⟩
    rcases hpy with rfl | hpy
    · exact hip
    · exact ih p (by omega) hpy hip
theorem ord_sub {A M : List Ev} (hA : seqL A = true) (hM : seqL M = true) (hs : ∀ x ∈ A, x ∈ M) : ∀ z, (ord (gD M) M.length z).filter (fun y => insB (gD A) A.length y) = ord (gD A) A.length z := by
  refine down_ind (fun z ih => ?_)
  rw [ord_eq (okG hM), ord_eq (okG hA), List.filter_flatMap, ← kids_sub hA hM hs z, ← List.filter_reverse]
  have : ∀ l : List Int, (∀ y ∈ l, y ∈ kids (gD M) M.length z) → l.flatMap (fun y => (y :: ord (gD M) M.length y).filter (fun y => insB (gD A) A.length y)) = (l.filter (fun y => insB (gD A) A.length y)).flatMap (fun y => y :: ord (gD A) A.length y) := by
    intro l
    induction l with
    | nil => intro _; rfl
    | cons y l ihl =>
      intro hl
      have hk := kid_lt (okG hM) (hl y List.mem_cons_self)
      rw [List.flatMap_cons, ihl (fun x hx => hl x (List.mem_cons_of_mem _ hx))]
      cases hy : insB (gD A) A.length y with
      | true =>
        rw [List.filter_cons_of_pos (p := fun y => insB (gD A) A.length y) (a := y) (l := l) hy, List.flatMap_cons, List.filter_cons_of_pos (p := fun y => insB (gD A) A.length y) (a := y) hy, ih y hk.1 hk.2.2]
      | false =>
        rw [List.filter_cons_of_neg (p := fun y => insB (gD A) A.length y) (a := y) (l := l) (by rw [hy]; simp), List.filter_cons_of_neg (p := fun y => insB (gD A) A.length y) (a := y) (by rw [hy]; simp)]
        have : (ord (gD M) M.length y).filter (fun y => insB (gD A) A.length y) = [] := by
          rw [List.filter_eq_nil_iff]
          intro x hx hix
          have := ins_up hA hM hs y hk.2.1 x.toNat x (by omega) hx hix
          rw [this] at hy
          cases hy
        rw [this, List.nil_append]
  exact this _ (fun y hy => List.mem_reverse.1 hy)
/-- one stands ahead of the other -/
def prec (L : List Int) (x y : Int) : Prop := ∃ i j : Nat, i < j ∧ L[i]? = some x ∧ L[j]? = some y
theorem prec_pair (L : List Int) : L.Pairwise (prec L) := by
  rw [List.pairwise_iff_getElem]
  intro i j hi hj hij
  exact ⟨i, j, hij, List.getElem?_eq_getElem hi, List.getElem?_eq_getElem hj⟩
theorem prec_not {L : List Int} (hn : L.Nodup) {x y : Int} (h : prec L x y) (h' : prec L y x) : False := by
  obtain ⟨i, j, hij, h1, h2⟩ := h
  obtain ⟨k, l, hkl, h3, h4⟩ := h'
  have hi : i < L.length := by
    rcases Nat.lt_or_ge i L.length with h | h
    · exact h
    · rw [List.getElem?_eq_none h] at h1; cases h1
  have hj : j < L.length := by
    rcases Nat.lt_or_ge j L.length with h | h
    · exact h
    · rw [List.getElem?_eq_none h] at h2; cases h2
  have e1 : i = l := (List.getElem?_inj hi hn).1 (h1.trans h4.symm)
  have e2 : j = k := (List.getElem?_inj hj hn).1 (h2.trans h3.symm)
  omega
/-- in both lists of what is shown two ids stand alike -/
theorem ids_order {A M : List Ev} (hA : seqL A = true) (hM : seqL M = true) (hs : ∀ x ∈ A, x ∈ M) {i' i p k : Nat} (hi : i < (idsR (gD M) M.length).length) (hii : i' < i) (hp : p < (idsR (gD A) A.length).length) (hkp : k < p)
    (e1 : (idsR (gD A) A.length).getD p 0 = (idsR (gD M) M.length).getD i' 0) (e2 : (idsR (gD A) A.length).getD k 0 = (idsR (gD M) M.length).getD i 0) : False := by
  have hnd := ord_nodup (okG hM) 0
  have s1 : (idsR (gD M) M.length).Pairwise (prec (ord (gD M) M.length 0)) := by
    rw [idsR_yes (seqG hM)]
    exact List.Pairwise.sublist List.filter_sublist (prec_pair _)
  have s2 : (idsR (gD A) A.length).Pairwise (prec (ord (gD M) M.length 0)) := by
    rw [idsR_yes (seqG hA)]
    refine List.Pairwise.sublist List.filter_sublist ?_
    rw [← ord_sub hA hM hs 0]
    exact List.Pairwise.sublist List.filter_sublist (prec_pair _)
  rw [List.pairwise_iff_getElem] at s1 s2
  have q1 := s1 i' i (by omega) hi hii
  have q2 := s2 k p (by omega) hp hkp
  have f1 : (idsR (gD M) M.length)[i']'(by omega) = (idsR (gD A) A.length)[p] := by
    have := e1
    simp only [List.getD_eq_getElem?_getD, List.getElem?_eq_getElem hp, List.getElem?_eq_getElem (show i' < (idsR (gD M) M.length).length by omega), Option.getD_some] at this
    exact this.symm
  have f2 : (idsR (gD M) M.length)[i] = (idsR (gD A) A.length)[k]'(by omega) := by
    have := e2
    simp only [List.getD_eq_getElem?_getD, List.getElem?_eq_getElem hi, List.getElem?_eq_getElem (show k < (idsR (gD A) A.length).length by omega), Option.getD_some] at this
    exact this.symm
  rw [f1, f2] at q1
  exact prec_not hnd q1 q2
end Go.Proofs.Ytjfciokpnhnhbaa
