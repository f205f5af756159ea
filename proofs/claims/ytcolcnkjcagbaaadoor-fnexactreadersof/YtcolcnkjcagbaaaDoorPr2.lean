/-
  The specification's plain reader reads just the terms that stand in the text; the nodes of a term; its text. Plain data alone; no condition.
-/
import Derived.Test.YtcolcnkjcagbaaaDoorPr
namespace Go.Proofs.YtcolcnkjcagbaaaDoor
open Go.RowKit
set_option linter.unusedVariables false

theorem want_good {s p : ByteArray} {r : Rs} (h : (r.want s p).b = false) : r.b = false ∧ preB s r.j p = true ∧ (r.want s p).j = r.j + p.size := by
  unfold Rs.want at h ⊢
  dsimp only at h ⊢
  simp only [Bool.not_eq_false', Bool.and_eq_true, Bool.not_eq_true'] at h
  exact ⟨h.1, h.2, by rw [h.1, h.2]; rfl⟩

theorem want_of {s p : ByteArray} {v : Int} {j : Nat} {l : List Nd} (h : preB s j p = true) : Rs.want s p ⟨v, j, false, l⟩ = ⟨v, j + p.size, false, l⟩ := by
  unfold Rs.want
  dsimp only
  rw [h]
  rfl

theorem rdec_nat (u : ByteArray) : ∃ k : Nat, (rdec u).1 = k := by
  have h0 : 0 ≤ (rdec u).1 := by
    unfold rdec
    split
    · exact Int.le_refl _
    · split
      · exact (numOf_bound _ (by assumption)).1
      · exact Int.le_refl _
  exact Int.eq_ofNat_of_zero_le h0

theorem num_good {s : ByteArray} {v : Int} {i : Nat} {l : List Nd} (h : (Rs.num s ⟨v, i, false, l⟩).b = false) : ∃ n : Nat, rdec (s.extract i (dEnd s i)) = ((n : Int), true) ∧ Rs.num s ⟨v, i, false, l⟩ = ⟨n, dEnd s i, false, l⟩ := by
  unfold Rs.num at h ⊢
  dsimp only at h ⊢
  obtain ⟨k, hk⟩ := rdec_nat (s.extract i (dEnd s i))
  have h2 : (rdec (s.extract i (dEnd s i))).2 = true := by simpa using h
  have e : rdec (s.extract i (dEnd s i)) = ((k : Int), true) := by rw [← hk, ← h2]
  exact ⟨k, e, by rw [e]; rfl⟩

theorem num_of {s : ByteArray} {v : Int} {i n : Nat} {l : List Nd} (h : rdec (s.extract i (dEnd s i)) = ((n : Int), true)) : Rs.num s ⟨v, i, false, l⟩ = ⟨n, dEnd s i, false, l⟩ := by
  unfold Rs.num
  dsimp only
  rw [h]
  rfl

theorem leaf_good {s : ByteArray} {k i f : Nat} {l : List Nd} (hk : k = 1 ∨ k = 2 ∨ k = 3) (hp : preB s i (Tr.head k) = true) (h : (qLeaf s k i l).b = false) : ∃ t, Pr s t (f + 1) i (qLeaf s k i l).j ∧ (qLeaf s k i l).l = l ++ t.flat l.length ∧ (qLeaf s k i l).v = ((l.length + t.size : Nat) : Int) - 1 := by
  unfold qLeaf at h ⊢
  obtain ⟨n, hr, e⟩ := num_good (v := 0) (l := l) (i := i + 1) (s := s) h
  rw [e]
  refine ⟨⟨.inl (k, n)⟩, ⟨by omega, hk, hp, hr, rfl⟩, rfl, ?_⟩
  unfold Rs.add Tr.size
  dsimp only
  omega

theorem qS_pr {s : ByteArray} : ∀ (f i : Nat) (b : Bool) (l : List Nd), (qS s f i b l).b = false → b = false ∧ ∃ t, Pr s t f i (qS s f i b l).j ∧ (qS s f i b l).l = l ++ t.flat l.length ∧ (qS s f i b l).v = ((l.length + t.size : Nat) : Int) - 1
  | 0, i, b, l, h => by cases h
  | f + 1, i, b, l, h => by
    have ih := qS_pr (s := s) f
    unfold qS at h ⊢
    by_cases hc : b = true ∨ 40 < l.length
    · rw [if_pos hc] at h
      cases h
    rw [if_neg hc] at h ⊢
    have hb : b = false := by cases b <;> simp_all
    refine ⟨hb, ?_⟩
    by_cases y0 : preB s i sA = true
    · rw [if_pos y0] at h ⊢
      exact leaf_good (k := 1) (.inl rfl) y0 h
    rw [if_neg y0] at h ⊢
    by_cases y1 : preB s i sK = true
    · rw [if_pos y1] at h ⊢
      exact leaf_good (k := 2) (.inr (.inl rfl)) y1 h
    rw [if_neg y1] at h ⊢
    by_cases y2 : preB s i sV = true
    · rw [if_pos y2] at h ⊢
      exact leaf_good (k := 3) (.inr (.inr rfl)) y2 h
    rw [if_neg y2] at h ⊢
    by_cases y3 : preB s i sH = true
    · rw [if_pos y3] at h ⊢
      obtain ⟨g1, g2, g3⟩ := want_good (r := qS s f (i + 2) false l) h
      obtain ⟨_, t, hpr, hl, hv⟩ := ih _ _ _ g1
      refine ⟨⟨.inr (.inl t)⟩, ⟨by omega, y3, _, hpr, g2, g3⟩, ?_, ?_⟩
      · show (qS s f (i + 2) false l).l ++ [_] = _
        rw [hl, hv]
        simp [Tr.flat]
      · show (((qS s f (i + 2) false l).l.length : Nat) : Int) = _
        rw [hl, List.length_append, Tr.flat_length]
        simp only [Tr.size]
        omega
    rw [if_neg y3] at h ⊢
    by_cases y4 : preB s i sP = true
    · rw [if_pos y4] at h ⊢
      dsimp only at h ⊢
      obtain ⟨g1, g2, g3⟩ := want_good (r := qS s f _ _ _) h
      obtain ⟨k1, u, hpr2, hl2, hv2⟩ := ih _ _ _ g1
      generalize qS s f (Rs.want s sCm (qS s f (i + 2) false l)).j (Rs.want s sCm (qS s f (i + 2) false l)).b (Rs.want s sCm (qS s f (i + 2) false l)).l = r2 at h g1 g2 g3 hpr2 hl2 hv2 ⊢
      obtain ⟨j1, j2, j3⟩ := want_good (r := qS s f (i + 2) false l) k1
      obtain ⟨_, t, hpr, hl, hv⟩ := ih _ _ _ j1
      rw [j3] at hpr2
      have hlw : (Rs.want s sCm (qS s f (i + 2) false l)).l = l ++ t.flat l.length := hl
      refine ⟨⟨.inr (.inr (.inl (t, u)))⟩, ⟨by omega, y4, _, hpr, j2, _, hpr2, g2, g3⟩, ?_, ?_⟩
      · show r2.l ++ [_] = _
        rw [hl2, hv2, hlw, show (Rs.want s sCm (qS s f (i + 2) false l)).v = _ from hv]
        simp [Tr.flat, Tr.flat_length]
      · show ((r2.l.length : Nat) : Int) = _
        rw [hl2, hlw, List.length_append, List.length_append, Tr.flat_length, Tr.flat_length]
        simp only [Tr.size]
        omega
    rw [if_neg y4] at h ⊢
    by_cases y5 : preB s i sE = true ∨ preB s i sS = true
    · rw [if_pos y5] at h ⊢
      dsimp only at h ⊢
      obtain ⟨g1, g2, g3⟩ := want_good (r := qS s f _ _ _) h
      obtain ⟨k1, t, hpr, hl, hv⟩ := ih _ _ _ g1
      generalize qS s f (Rs.want s sCm (Rs.num s ⟨0, i + 3, false, l⟩)).j (Rs.want s sCm (Rs.num s ⟨0, i + 3, false, l⟩)).b (Rs.want s sCm (Rs.num s ⟨0, i + 3, false, l⟩)).l = r2 at h g1 g2 g3 hpr hl hv ⊢
      obtain ⟨j1, j2, j3⟩ := want_good (r := Rs.num s ⟨0, i + 3, false, l⟩) k1
      obtain ⟨n, hr, e⟩ := num_good j1
      have hlw : (Rs.want s sCm (Rs.num s ⟨0, i + 3, false, l⟩)).l = l := by rw [e]; rfl
      have hvw : (Rs.num s ⟨0, i + 3, false, l⟩).v = n := by rw [e]
      have hjw : (Rs.num s ⟨0, i + 3, false, l⟩).j = dEnd s (i + 3) := by rw [e]
      rw [hlw] at hl hv
      rw [j3, hjw] at hpr
      rw [hjw] at j2
      by_cases y6 : preB s i sE = true
      · refine ⟨⟨.inr (.inr (.inr (6, n, t)))⟩, ⟨by omega, .inl rfl, y6, hr, j2, _, hpr, g2, g3⟩, ?_, ?_⟩
        · rw [if_pos y6]
          show r2.l ++ [_] = _
          rw [hl, hv, hvw]
          simp [Tr.flat]
        · show ((r2.l.length : Nat) : Int) = _
          rw [hl, List.length_append, Tr.flat_length]
          simp only [Tr.size]
          omega
      · refine ⟨⟨.inr (.inr (.inr (7, n, t)))⟩, ⟨by omega, .inr rfl, y5.resolve_left y6, hr, j2, _, hpr, g2, g3⟩, ?_, ?_⟩
        · rw [if_neg y6]
          show r2.l ++ [_] = _
          rw [hl, hv, hvw]
          simp [Tr.flat]
        · show ((r2.l.length : Nat) : Int) = _
          rw [hl, List.length_append, Tr.flat_length]
          simp only [Tr.size]
          omega
    · rw [if_neg y5] at h
      cases h

end Go.Proofs.YtcolcnkjcagbaaaDoor
