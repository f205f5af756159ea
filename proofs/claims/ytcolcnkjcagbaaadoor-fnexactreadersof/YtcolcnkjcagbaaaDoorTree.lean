/-
  Plain reckoning over the nodes of a term: the specification's search for a tree and the program's search find the same. No condition.
-/
import Derived.Test.YtcolcnkjcagbaaaDoorFields
namespace Go.Proofs.YtcolcnkjcagbaaaDoor

/-- the specification's search: the first node of the tree whose root is n, and how deep it is; (-1, 0): none -/
def sT (Kd A B : Nat → Int) : Nat → Nat → Int × Int
  | 0, _ => (-1, 0)
  | f + 1, n =>
    if kidsI (Kd n) = 0 then ((n : Int), 1)
    else if kidsI (Kd n) = 1 then
      if n = 0 ∨ A n ≠ (n : Int) - 1 then (-1, 0)
      else
        if (sT Kd A B f (n - 1)).1 < 0 then (-1, 0)
        else ((sT Kd A B f (n - 1)).1, max 0 (sT Kd A B f (n - 1)).2 + 1)
    else
      if n = 0 ∨ B n ≠ (n : Int) - 1 then (-1, 0)
      else
        if (sT Kd A B f (n - 1)).1 < 0 then (-1, 0)
        else if (sT Kd A B f (n - 1)).1 = 0 ∨ A n ≠ (sT Kd A B f (n - 1)).1 - 1 then (-1, 0)
        else
          if (sT Kd A B f ((sT Kd A B f (n - 1)).1 - 1).toNat).1 < 0 then (-1, 0)
          else ((sT Kd A B f ((sT Kd A B f (n - 1)).1 - 1).toNat).1, max (max 0 (sT Kd A B f (n - 1)).2) (sT Kd A B f ((sT Kd A B f (n - 1)).1 - 1).toNat).2 + 1)

/-- the program's search: the term at place p and the place where its nodes begin -/
def tA (Kd N A B : Nat → Int) : Nat → Int → Option (Value × Int)
  | 0, _ => none
  | f + 1, p =>
    if p < 0 then none
    else if fOk (Kd p.toNat) (N p.toNat) (A p.toNat) (B p.toNat) = false then none
    else if Kd p.toNat = 5 then
      match tA Kd N A B f (p - 1) with
      | none => none
      | some (v2, mid) =>
        if B p.toNat ≠ p - 1 then none
        else match tA Kd N A B f (mid - 1) with
          | none => none
          | some (v1, beg) => if A p.toNat ≠ mid - 1 then none else some (.iface 113 (.agg #[v1, v2]), beg)
    else if Kd p.toNat < 4 then some (.iface 77 (.agg #[.int .i64 (Kd p.toNat), .int .i64 (N p.toNat)]), p)
    else
      match tA Kd N A B f (p - 1) with
      | none => none
      | some (v, first) =>
        if A p.toNat ≠ p - 1 then none
        else if Kd p.toNat = 4 then some (.iface 111 (.agg #[v]), first)
        else some (.iface 71 (.agg #[.int .i64 (Kd p.toNat), .int .i64 (N p.toNat), v]), first)

theorem tA_bound {Kd N A B : Nat → Int} : ∀ (f : Nat) (p : Int) (v : Value) (x : Int), tA Kd N A B f p = some (v, x) → 0 ≤ x ∧ x ≤ p
  | 0, p, v, x, h => by simp [tA] at h
  | f + 1, p, v, x, h => by
    have ih := tA_bound (Kd := Kd) (N := N) (A := A) (B := B) f
    unfold tA at h
    split at h
    · simp at h
    · split at h
      · simp at h
      · split at h
        · split at h
          · simp at h
          · rename_i v2 mid e2
            have b2 := ih _ _ _ e2
            split at h
            · simp at h
            · split at h
              · simp at h
              · rename_i v1 beg e1
                have b1 := ih _ _ _ e1
                split at h
                · simp at h
                · simp at h
                  obtain ⟨_, rfl⟩ := h
                  omega
        · split at h
          · simp at h
            obtain ⟨_, rfl⟩ := h
            omega
          · split at h
            · simp at h
            · rename_i v0 first e0
              have b0 := ih _ _ _ e0
              split at h
              · simp at h
              · split at h
                · simp at h
                  obtain ⟨_, rfl⟩ := h
                  omega
                · simp at h
                  obtain ⟨_, rfl⟩ := h
                  omega

theorem sT_bound {Kd A B : Nat → Int} : ∀ (f n : Nat), (sT Kd A B f n).1 < 0 ∧ (sT Kd A B f n) = (-1, 0) ∨ (0 ≤ (sT Kd A B f n).1 ∧ (sT Kd A B f n).1 ≤ n ∧ 1 ≤ (sT Kd A B f n).2 ∧ (sT Kd A B f n).2 ≤ f)
  | 0, n => by simp [sT]
  | f + 1, n => by
    have i1 := sT_bound (Kd := Kd) (A := A) (B := B) f (n - 1)
    have i2 := sT_bound (Kd := Kd) (A := A) (B := B) f ((sT Kd A B f (n - 1)).1 - 1).toNat
    rw [show sT Kd A B (f + 1) n = _ from rfl]
    unfold sT
    generalize sT Kd A B f ((sT Kd A B f (n - 1)).1 - 1).toNat = q at *
    generalize sT Kd A B f (n - 1) = r at *
    split
    · right; simp; omega
    · split
      · split
        · left; simp
        · split
          · left; simp
          · right; simp; omega
      · split
        · left; simp
        · split
          · left; simp
          · split
            · left; simp
            · split
              · left; simp
              · right; simp; omega

theorem fOk_kinds {k n a b : Int} (h : fOk k n a b = true) : 1 ≤ k ∧ k ≤ 7 := by
  by_cases hk : k < 1 ∨ 7 < k
  · rw [fOk_none hk] at h; cases h
  · omega

theorem kids_leaf {k : Int} (h1 : k < 4) : kidsI k = 0 := by
  unfold kidsI
  rw [if_neg (by omega), if_neg (by omega)]
theorem kids_pair : kidsI 5 = 2 := rfl
theorem kids_one {k : Int} (h1 : 4 ≤ k) (h2 : k ≤ 7) (h3 : k ≠ 5) : kidsI k = 1 := by
  unfold kidsI
  rw [if_pos (by omega)]

section
variable {Kd N A B : Nat → Int}

theorem tA_to : ∀ (f n g : Nat) (v : Value) (x : Int), n < g → tA Kd N A B f (n : Int) = some (v, x) →
    (sT Kd A B g n).1 = x ∧ (sT Kd A B g n).2 ≤ f ∧ ∀ i : Nat, x ≤ (i : Int) → i ≤ n → fOk (Kd i) (N i) (A i) (B i) = true
  | 0, n, g, v, x, _, h => by simp [tA] at h
  | f + 1, n, 0, v, x, hg, h => by omega
  | f + 1, n, g + 1, v, x, hg, h => by
    unfold tA at h
    rw [Int.toNat_natCast] at h
    rw [if_neg (by omega)] at h
    by_cases hf : fOk (Kd n) (N n) (A n) (B n) = true
    · rw [if_neg (by rw [hf]; decide)] at h
      have hk := fOk_kinds hf
      by_cases h5 : Kd n = 5
      · rw [if_pos h5] at h
        cases e2 : tA Kd N A B f ((n : Int) - 1) with
        | none => rw [e2] at h; simp at h
        | some q =>
          obtain ⟨v2, mid⟩ := q
          rw [e2] at h
          have b2 := tA_bound _ _ _ _ e2
          have hn1 : ((n : Int) - 1) = ((n - 1 : Nat) : Int) := by omega
          rw [hn1] at e2
          obtain ⟨s1, s2, s3⟩ := tA_to f (n - 1) g v2 mid (by omega) e2
          dsimp only at h
          by_cases hB : B n = (n : Int) - 1
          · rw [if_neg (by omega)] at h
            cases e1 : tA Kd N A B f (mid - 1) with
            | none => rw [e1] at h; simp at h
            | some q1 =>
              obtain ⟨v1, beg⟩ := q1
              rw [e1] at h
              have b1 := tA_bound _ _ _ _ e1
              have hm1 : mid - 1 = ((mid - 1).toNat : Int) := by omega
              rw [hm1] at e1
              obtain ⟨t1, t2, t3⟩ := tA_to f (mid - 1).toNat g v1 beg (by omega) e1
              dsimp only at h
              by_cases hA : A n = mid - 1
              · rw [if_neg (by omega)] at h
                simp at h
                obtain ⟨_, rfl⟩ := h
                unfold sT
                rw [h5, kids_pair, if_neg (by omega), if_neg (by omega), if_neg (by omega), s1, if_neg (by omega), if_neg (by omega), t1, if_neg (by omega)]
                refine ⟨rfl, by dsimp only; omega, fun i h1 h2 => ?_⟩
                by_cases hi : i = n
                · subst hi; exact hf
                · by_cases hi2 : mid ≤ (i : Int)
                  · exact s3 i hi2 (by omega)
                  · exact t3 i h1 (by omega)
              · rw [if_pos hA] at h; simp at h
          · rw [if_pos hB] at h; simp at h
      · rw [if_neg h5] at h
        by_cases h4 : Kd n < 4
        · rw [if_pos h4] at h
          simp at h
          obtain ⟨_, rfl⟩ := h
          unfold sT
          rw [kids_leaf h4, if_pos rfl]
          refine ⟨rfl, by dsimp only; omega, fun i h1 h2 => ?_⟩
          obtain rfl : i = n := by omega
          exact hf
        · rw [if_neg h4] at h
          cases e2 : tA Kd N A B f ((n : Int) - 1) with
          | none => rw [e2] at h; simp at h
          | some q =>
            obtain ⟨v2, first⟩ := q
            rw [e2] at h
            have b2 := tA_bound _ _ _ _ e2
            have hn1 : ((n : Int) - 1) = ((n - 1 : Nat) : Int) := by omega
            rw [hn1] at e2
            obtain ⟨s1, s2, s3⟩ := tA_to f (n - 1) g v2 first (by omega) e2
            dsimp only at h
            by_cases hA : A n = (n : Int) - 1
            · rw [if_neg (by omega)] at h
              have hx : first = x := by
                split at h
                · simp at h; exact h.2
                · simp at h; exact h.2
              subst hx
              unfold sT
              rw [kids_one (by omega) (by omega) h5, if_neg (by omega), if_pos rfl, if_neg (by omega), s1, if_neg (by omega)]
              refine ⟨rfl, by simp; omega, fun i h1 h2 => ?_⟩
              by_cases hi : i = n
              · subst hi; exact hf
              · exact s3 i h1 (by omega)
            · rw [if_pos hA] at h; simp at h
    · have hf' : fOk (Kd n) (N n) (A n) (B n) = false := by simpa using hf
      rw [if_pos hf'] at h; simp at h

theorem tA_of : ∀ (f n g : Nat), n < g → 0 ≤ (sT Kd A B g n).1 → (sT Kd A B g n).2 ≤ f →
    (∀ i : Nat, (sT Kd A B g n).1 ≤ (i : Int) → i ≤ n → fOk (Kd i) (N i) (A i) (B i) = true) → ∃ v, tA Kd N A B f (n : Int) = some (v, (sT Kd A B g n).1)
  | 0, n, g, hg, h0, hd, _ => by
    have := sT_bound (Kd := Kd) (A := A) (B := B) g n
    omega
  | f + 1, n, 0, hg, _, _, _ => by omega
  | f + 1, n, g + 1, hg, h0, hd, hall => by
    have hbn := sT_bound (Kd := Kd) (A := A) (B := B) (g + 1) n
    have hf : fOk (Kd n) (N n) (A n) (B n) = true := hall n (by omega) (Nat.le_refl _)
    have hk := fOk_kinds hf
    unfold tA
    rw [Int.toNat_natCast, if_neg (by omega), if_neg (by rw [hf]; decide)]
    clear hbn
    by_cases h5 : Kd n = 5
    · rw [if_pos h5]
      unfold sT at h0 hd hall ⊢
      rw [h5, kids_pair, if_neg (by omega), if_neg (by omega)] at h0 hd hall ⊢
      have i1 := sT_bound (Kd := Kd) (A := A) (B := B) g (n - 1)
      have i2 := sT_bound (Kd := Kd) (A := A) (B := B) g ((sT Kd A B g (n - 1)).1 - 1).toNat
      by_cases c1 : n = 0 ∨ B n ≠ (n : Int) - 1
      · rw [if_pos c1] at h0; simp at h0
      · rw [if_neg c1] at h0 hd hall ⊢
        by_cases c2 : (sT Kd A B g (n - 1)).1 < 0
        · rw [if_pos c2] at h0; simp at h0
        · rw [if_neg c2] at h0 hd hall ⊢
          by_cases c3 : (sT Kd A B g (n - 1)).1 = 0 ∨ A n ≠ (sT Kd A B g (n - 1)).1 - 1
          · rw [if_pos c3] at h0; simp at h0
          · rw [if_neg c3] at h0 hd hall ⊢
            by_cases c4 : (sT Kd A B g ((sT Kd A B g (n - 1)).1 - 1).toNat).1 < 0
            · rw [if_pos c4] at h0; simp at h0
            · rw [if_neg c4] at h0 hd hall ⊢
              dsimp only at h0 hd hall ⊢
              obtain ⟨v2, e2⟩ := tA_of f (n - 1) g (by omega) (by omega) (by omega) (fun i h1 h2 => hall i (by omega) (by omega))
              obtain ⟨v1, e1⟩ := tA_of f ((sT Kd A B g (n - 1)).1 - 1).toNat g (by omega) (by omega) (by omega) (fun i h1 h2 => hall i (by omega) (by omega))
              rw [show ((n - 1 : Nat) : Int) = (n : Int) - 1 by omega] at e2
              rw [show (((sT Kd A B g (n - 1)).1 - 1).toNat : Int) = (sT Kd A B g (n - 1)).1 - 1 by omega] at e1
              rw [e2]
              dsimp only
              rw [if_neg (by omega), e1]
              dsimp only
              rw [if_neg (by omega)]
              exact ⟨_, rfl⟩
    · rw [if_neg h5]
      unfold sT at h0 hd hall ⊢
      by_cases h4 : Kd n < 4
      · rw [if_pos h4]
        rw [kids_leaf h4, if_pos rfl] at h0 hd hall ⊢
        exact ⟨_, rfl⟩
      · rw [if_neg h4]
        rw [kids_one (by omega) (by omega) h5, if_neg (by omega), if_pos rfl] at h0 hd hall ⊢
        have i1 := sT_bound (Kd := Kd) (A := A) (B := B) g (n - 1)
        by_cases c1 : n = 0 ∨ A n ≠ (n : Int) - 1
        · rw [if_pos c1] at h0; simp at h0
        · rw [if_neg c1] at h0 hd hall ⊢
          by_cases c2 : (sT Kd A B g (n - 1)).1 < 0
          · rw [if_pos c2] at h0; simp at h0
          · rw [if_neg c2] at h0 hd hall ⊢
            dsimp only at h0 hd hall ⊢
            obtain ⟨v2, e2⟩ := tA_of f (n - 1) g (by omega) (by omega) (by omega) (fun i h1 h2 => hall i (by omega) (by omega))
            rw [show ((n - 1 : Nat) : Int) = (n : Int) - 1 by omega] at e2
            rw [e2]
            dsimp only
            rw [if_neg (by omega)]
            split
            · exact ⟨_, rfl⟩
            · exact ⟨_, rfl⟩

end

/-- the term of all nodes, where there is one -/
def tOf (Kd N A B : Nat → Int) (len : Nat) : Option Value :=
  if len < 1 ∨ 40 < len then none
  else match tA Kd N A B 10 ((len : Int) - 1) with
    | none => none
    | some (v, first) => if first ≠ 0 then none else some v

def allOk (Kd N A B : Nat → Int) (len : Nat) : Bool := (List.range len).all fun i => fOk (Kd i) (N i) (A i) (B i)
def sOk (Kd N A B : Nat → Int) (len : Nat) : Bool :=
  if len < 1 ∨ 40 < len then false
  else allOk Kd N A B len && ((sT Kd A B len (len - 1)).1 == 0 && decide ((sT Kd A B len (len - 1)).2 ≤ 10))

theorem sOk_tOf (Kd N A B : Nat → Int) (len : Nat) : sOk Kd N A B len = (tOf Kd N A B len).isSome := by
  unfold sOk tOf
  by_cases hl : len < 1 ∨ 40 < len
  · rw [if_pos hl, if_pos hl]; rfl
  · rw [if_neg hl, if_neg hl]
    have hn : ((len : Int) - 1) = ((len - 1 : Nat) : Int) := by omega
    rw [hn]
    cases e : tA Kd N A B 10 ((len - 1 : Nat) : Int) with
    | none =>
      dsimp only
      have : ¬ ((allOk Kd N A B len && ((sT Kd A B len (len - 1)).1 == 0 && decide ((sT Kd A B len (len - 1)).2 ≤ 10))) = true) := by
        intro h
        simp only [Bool.and_eq_true, beq_iff_eq, decide_eq_true_eq, allOk, List.all_eq_true, List.mem_range] at h
        obtain ⟨v, hv⟩ := tA_of (Kd := Kd) (N := N) (A := A) (B := B) 10 (len - 1) len (by omega) (by omega) h.2.2 (fun i _ h2 => h.1 i (by omega))
        rw [hv] at e
        cases e
      simpa using this
    | some q =>
      obtain ⟨v, x⟩ := q
      dsimp only
      obtain ⟨t1, t2, t3⟩ := tA_to 10 (len - 1) len v x (by omega) e
      by_cases hx : x = 0
      · rw [if_neg (by omega)]
        have ha : allOk Kd N A B len = true := by
          simp only [allOk, List.all_eq_true, List.mem_range]
          exact fun i hi => t3 i (by omega) (by omega)
        rw [ha, t1, hx]
        simp
        omega
      · rw [if_pos hx]
        have : ((sT Kd A B len (len - 1)).1 == 0) = false := by rw [t1]; simpa using hx
        rw [this]
        simp

end Go.Proofs.YtcolcnkjcagbaaaDoor
