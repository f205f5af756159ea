/-
  Both plain readers of terms read the same terms. Plain data alone; no condition.
-/
import Derived.Test.YtcolcnkjcagbaaaDoorSReadT
import Derived.Test.YtcolcnkjcagbaaaDoorTermAt
namespace Go.Proofs.YtcolcnkjcagbaaaDoor
open Go.RowKit
set_option linter.unusedVariables false

/-- the term t stands in s from i to j, no deeper than f -/
def Pr (s : ByteArray) : Tr → Nat → Nat → Nat → Prop
  | ⟨.inl (k, n)⟩, f, i, j => 1 ≤ f ∧ (k = 1 ∨ k = 2 ∨ k = 3) ∧ preB s i (Tr.head k) = true ∧ rdec (s.extract (i + 1) (dEnd s (i + 1))) = ((n : Int), true) ∧ j = dEnd s (i + 1)
  | ⟨.inr (.inl t)⟩, f, i, j => 1 ≤ f ∧ preB s i sH = true ∧ ∃ m, Pr s t (f - 1) (i + 2) m ∧ preB s m sRp = true ∧ j = m + 1
  | ⟨.inr (.inr (.inl (t, u)))⟩, f, i, j => 1 ≤ f ∧ preB s i sP = true ∧ ∃ m, Pr s t (f - 1) (i + 2) m ∧ preB s m sCm = true ∧ ∃ m2, Pr s u (f - 1) (m + 1) m2 ∧ preB s m2 sRp = true ∧ j = m2 + 1
  | ⟨.inr (.inr (.inr (k, n, t)))⟩, f, i, j => 1 ≤ f ∧ (k = 6 ∨ k = 7) ∧ preB s i (Tr.head k) = true ∧ rdec (s.extract (i + 3) (dEnd s (i + 3))) = ((n : Int), true) ∧ preB s (dEnd s (i + 3)) sCm = true ∧ ∃ m, Pr s t (f - 1) (dEnd s (i + 3) + 1) m ∧ preB s m sRp = true ∧ j = m + 1

def Tr.val : Tr → Value
  | ⟨.inl (k, n)⟩ => .iface 77 (.agg #[.int .i64 k, .int .i64 n])
  | ⟨.inr (.inl t)⟩ => .iface 111 (.agg #[t.val])
  | ⟨.inr (.inr (.inl (t, u)))⟩ => .iface 113 (.agg #[t.val, u.val])
  | ⟨.inr (.inr (.inr (k, n, t)))⟩ => .iface 71 (.agg #[.int .i64 k, .int .i64 n, t.val])

theorem pre_cons {s : ByteArray} {i : Nat} {c : UInt8} {cs : List UInt8} : preB s i { data := (c :: cs).toArray } = true ↔ i < s.size ∧ bt s i = (c.toNat : Int) ∧ preB s (i + 1) { data := cs.toArray } = true := by
  constructor
  · intro h
    have hb := pre_first h
    have hlt : i < s.size := by
      rcases Nat.lt_or_ge i s.size with h1 | h1
      · exact h1
      · unfold bt at hb
        rw [dif_neg (by omega)] at hb
        omega
    refine ⟨hlt, hb, ?_⟩
    unfold preB Lib.hasPrefix at *
    rw [List.isPrefixOf_iff_prefix] at *
    obtain ⟨t, ht⟩ := h
    refine ⟨t, ?_⟩
    have : (s.data.toList.drop i).drop 1 = cs ++ t := by rw [← ht]; rfl
    rw [List.drop_drop] at this
    exact this.symm
  · rintro ⟨hlt, hb, h⟩
    unfold preB Lib.hasPrefix at *
    rw [List.isPrefixOf_iff_prefix] at *
    obtain ⟨t, ht⟩ := h
    refine ⟨t, ?_⟩
    have hl : i < s.data.toList.length := by rw [← Lib.size_eq]; exact hlt
    rw [List.drop_eq_getElem_cons hl]
    have : s.data.toList[i] = c := by
      rw [← bt_in hlt] at hb
      have h2 : s[i].toNat = c.toNat := by omega
      have h3 : s[i] = c := UInt8.toNat_inj.1 h2
      rw [← h3]
      simp
      rfl
    rw [this, ← ht]
    rfl

theorem pre_nil {s : ByteArray} {i : Nat} : preB s i { data := ([] : List UInt8).toArray } = true := by
  unfold preB Lib.hasPrefix
  rw [List.isPrefixOf_iff_prefix]
  exact ⟨_, rfl⟩

theorem pre_one {s : ByteArray} {i : Nat} {c : UInt8} : preB s i { data := #[c] } = true ↔ i < s.size ∧ bt s i = (c.toNat : Int) :=
  (pre_cons (cs := [])).trans ⟨fun h => ⟨h.1, h.2.1⟩, fun h => ⟨h.1, h.2, pre_nil⟩⟩

theorem kind_letters {c : Int} : (kindI c = 1 ↔ c = 97) ∧ (kindI c = 2 ↔ c = 107) ∧ (kindI c = 3 ↔ c = 118) ∧ (kindI c = 4 ↔ c = 104) ∧ (kindI c = 5 ↔ c = 112) ∧ (kindI c = 6 ↔ c = 101) ∧ (kindI c = 7 ↔ c = 115) := by
  unfold kindI
  repeat' split
  all_goals omega

theorem numR_some {s : ByteArray} {i j : Nat} {n : Int} (h : numR s i = some (n, j)) : ∃ k : Nat, n = k ∧ k ≤ 999 ∧ rdec (s.extract i (dEnd s i)) = ((k : Int), true) ∧ j = dEnd s i := by
  unfold numR at h
  split at h
  · rename_i hc
    simp at h
    obtain ⟨rfl, rfl⟩ := h
    have h0 : 0 ≤ (rdec (s.extract i (dEnd s i))).1 := by
      unfold rdec
      split
      · exact Int.le_refl _
      · split
        · exact (numOf_bound _ (by assumption)).1
        · exact Int.le_refl _
    obtain ⟨k, hk⟩ := Int.eq_ofNat_of_zero_le h0
    refine ⟨k, hk, by omega, ?_, rfl⟩
    rw [← hk, ← hc.1]
  · cases h

theorem numR_of {s : ByteArray} {i k : Nat} (h : rdec (s.extract i (dEnd s i)) = ((k : Int), true)) (hk : k ≤ 999) : numR s i = some ((k : Int), dEnd s i) := by
  unfold numR
  rw [h, if_pos ⟨rfl, by dsimp only; omega⟩]

theorem pT_pr {s : ByteArray} : ∀ (f i nd : Nat) (v : Value) (j m : Nat), i ≤ s.size → pT s f i nd = some (v, j, m) → ∃ t, Pr s t f i j ∧ t.Ok ∧ m = nd + t.size ∧ v = t.val
  | 0, i, nd, v, j, m, _, h => by simp [pT] at h
  | f + 1, i, nd, v, j, m, hi, h => by
    have ih := pT_pr (s := s) f
    have kl := kind_letters (c := bt s i)
    unfold pT at h
    split at h
    · cases h
    split at h
    · cases h
    rename_i hn hlt
    have hlt : i < s.size := by omega
    split at h
    · rename_i hk
      split at h
      · cases h
      · rename_i n j' e
        obtain ⟨k, rfl, hk9, hr, rfl⟩ := numR_some e
        simp at h
        obtain ⟨rfl, rfl, rfl⟩ := h
        rcases hk with hk | hk | hk
        · exact ⟨⟨.inl (1, k)⟩, ⟨by omega, .inl rfl, pre_one.2 ⟨hlt, kl.1.1 hk⟩, hr, rfl⟩, ⟨.inl rfl, hk9⟩, rfl, by rw [hk]; rfl⟩
        · exact ⟨⟨.inl (2, k)⟩, ⟨by omega, .inr (.inl rfl), pre_one.2 ⟨hlt, kl.2.1.1 hk⟩, hr, rfl⟩, ⟨.inr (.inl rfl), hk9⟩, rfl, by rw [hk]; rfl⟩
        · exact ⟨⟨.inl (3, k)⟩, ⟨by omega, .inr (.inr rfl), pre_one.2 ⟨hlt, kl.2.2.1.1 hk⟩, hr, rfl⟩, ⟨.inr (.inr rfl), hk9⟩, rfl, by rw [hk]; rfl⟩
    split at h
    · rename_i hk
      split at h
      · cases h
      rename_i hp
      have hp : preB s (i + 1) sLp = true := by simpa using hp
      have r1 := preB_room (s := s) (i := i + 1) (by omega) hp
      have z1 : sLp.size = 1 := rfl
      split at h
      · cases h
      rename_i v' j' m' e
      obtain ⟨t, hpr, hok, rfl, rfl⟩ := ih _ _ _ _ _ (by omega) e
      split at h
      · cases h
      rename_i hq
      simp at h
      obtain ⟨rfl, rfl, rfl⟩ := h
      exact ⟨⟨.inr (.inl t)⟩, ⟨by omega, (pre_cons (cs := [40])).2 ⟨hlt, kl.2.2.2.1.1 hk, hp⟩, j', hpr, by simpa using hq, rfl⟩, hok, by simp only [Tr.size]; omega, rfl⟩
    split at h
    · rename_i hk
      split at h
      · cases h
      rename_i hp
      have hp : preB s (i + 1) sLp = true := by simpa using hp
      have r1 := preB_room (s := s) (i := i + 1) (by omega) hp
      have z1 : sLp.size = 1 := rfl
      split at h
      · cases h
      rename_i v' j' m' e
      have b := pT_bound _ _ _ _ _ _ (by omega) e
      obtain ⟨t, hpr, hok, rfl, rfl⟩ := ih _ _ _ _ _ (by omega) e
      split at h
      · cases h
      rename_i hq
      have hq : preB s j' sCm = true := by simpa using hq
      have r2 := preB_room b.1 hq
      have z2 : sCm.size = 1 := rfl
      split at h
      · cases h
      rename_i v2 j2 m2 e2
      obtain ⟨u, hpr2, hok2, rfl, rfl⟩ := ih _ _ _ _ _ (by omega) e2
      split at h
      · cases h
      rename_i hq2
      simp at h
      obtain ⟨rfl, rfl, rfl⟩ := h
      exact ⟨⟨.inr (.inr (.inl (t, u)))⟩, ⟨by omega, (pre_cons (cs := [40])).2 ⟨hlt, kl.2.2.2.2.1.1 hk, hp⟩, j', hpr, hq, j2, hpr2, by simpa using hq2, rfl⟩, ⟨hok, hok2⟩, by simp only [Tr.size]; omega, rfl⟩
    split at h
    · rename_i hk
      split at h
      · cases h
      rename_i hp
      have hp : preB s (i + 1) sLk = true := by simpa using hp
      have r1 := preB_room (s := s) (i := i + 1) (by omega) hp
      have z1 : sLk.size = 2 := rfl
      split at h
      · cases h
      rename_i n j' e
      have b := numR_bound (by omega) e
      obtain ⟨k, rfl, hk9, hr, rfl⟩ := numR_some e
      split at h
      · cases h
      rename_i hq
      have hq : preB s (dEnd s (i + 1 + 2)) sCm = true := by simpa using hq
      have r2 := preB_room b.2 hq
      have z2 : sCm.size = 1 := rfl
      split at h
      · cases h
      rename_i v2 j2 m2 e2
      obtain ⟨t, hpr, hok, rfl, rfl⟩ := ih _ _ _ _ _ (by omega) e2
      split at h
      · cases h
      rename_i hq2
      simp at h
      obtain ⟨rfl, rfl, rfl⟩ := h
      rcases hk with hk | hk
      · exact ⟨⟨.inr (.inr (.inr (6, k, t)))⟩, ⟨by omega, .inl rfl, (pre_cons (cs := [40, 107])).2 ⟨hlt, kl.2.2.2.2.2.1.1 hk, hp⟩, hr, hq, j2, hpr, by simpa using hq2, rfl⟩, ⟨.inl rfl, hk9, hok⟩, by simp only [Tr.size]; omega, by rw [hk]; rfl⟩
      · exact ⟨⟨.inr (.inr (.inr (7, k, t)))⟩, ⟨by omega, .inr rfl, (pre_cons (cs := [40, 107])).2 ⟨hlt, kl.2.2.2.2.2.2.1 hk, hp⟩, hr, hq, j2, hpr, by simpa using hq2, rfl⟩, ⟨.inr rfl, hk9, hok⟩, by simp only [Tr.size]; omega, by rw [hk]; rfl⟩
    · cases h

theorem pr_pT {s : ByteArray} : ∀ (t : Tr) (f i j nd : Nat), Pr s t f i j → t.Ok → nd + t.size ≤ 40 → pT s f i nd = some (t.val, j, nd + t.size)
  | t, 0, i, j, nd, h, _, _ => by
    rcases t with ⟨(⟨k, n⟩ | t | ⟨t, u⟩ | ⟨k, n, t⟩)⟩ <;> exact absurd h.1 (by omega)
  | ⟨.inl (k, n)⟩, f + 1, i, j, nd, h, hok, hz => by
    obtain ⟨_, hk, hp, hr, rfl⟩ := h
    simp only [Tr.size] at hz
    have kl := kind_letters (c := bt s i)
    have hn := numR_of hr hok.2
    have hk' : i < s.size ∧ kindI (bt s i) = k := by
      rcases hk with rfl | rfl | rfl
      · exact ⟨(pre_one.1 hp).1, kl.1.2 (pre_one.1 hp).2⟩
      · exact ⟨(pre_one.1 hp).1, kl.2.1.2 (pre_one.1 hp).2⟩
      · exact ⟨(pre_one.1 hp).1, kl.2.2.1.2 (pre_one.1 hp).2⟩
    unfold pT
    rw [if_neg (by omega), if_neg (by omega), if_pos (by omega), hn]
    simp only [hk'.2]
    rfl
  | ⟨.inr (.inl t)⟩, f + 1, i, j, nd, h, hok, hz => by
    obtain ⟨_, hp, m, hpr, hq, rfl⟩ := h
    simp only [Tr.size] at hz
    have kl := kind_letters (c := bt s i)
    obtain ⟨hlt, hb, hp⟩ := (pre_cons (cs := [40])).1 hp
    have hk := kl.2.2.2.1.2 hb
    have ih := pr_pT t f (i + 2) m (nd + 1) hpr hok (by omega)
    unfold pT
    rw [if_neg (by omega), if_neg (by omega), if_neg (by omega), if_pos hk, if_neg (by rw [show preB s (i + 1) sLp = true from hp]; decide), ih]
    dsimp only
    rw [if_neg (by rw [hq]; decide)]
    simp only [Tr.size, Tr.val]
    rw [show nd + 1 + t.size = nd + (t.size + 1) by omega]
  | ⟨.inr (.inr (.inl (t, u)))⟩, f + 1, i, j, nd, h, hok, hz => by
    obtain ⟨_, hp, m, hpr, hq, m2, hpr2, hq2, rfl⟩ := h
    simp only [Tr.size] at hz
    have kl := kind_letters (c := bt s i)
    obtain ⟨hlt, hb, hp⟩ := (pre_cons (cs := [40])).1 hp
    have hk := kl.2.2.2.2.1.2 hb
    have ih := pr_pT t f (i + 2) m (nd + 1) hpr hok.1 (by omega)
    have ih2 := pr_pT u f (m + 1) m2 (nd + 1 + t.size) hpr2 hok.2 (by omega)
    unfold pT
    rw [if_neg (by omega), if_neg (by omega), if_neg (by omega), if_neg (by omega), if_pos hk, if_neg (by rw [show preB s (i + 1) sLp = true from hp]; decide), ih]
    dsimp only
    rw [if_neg (by rw [hq]; decide), ih2]
    dsimp only
    rw [if_neg (by rw [hq2]; decide)]
    simp only [Tr.size, Tr.val]
    rw [show nd + 1 + t.size + u.size = nd + (t.size + u.size + 1) by omega]
  | ⟨.inr (.inr (.inr (k, n, t)))⟩, f + 1, i, j, nd, h, hok, hz => by
    obtain ⟨_, hk, hp, hr, hq, m, hpr, hq2, rfl⟩ := h
    simp only [Tr.size] at hz
    have kl := kind_letters (c := bt s i)
    have hn := numR_of hr hok.2.1
    have hk' : i < s.size ∧ kindI (bt s i) = k ∧ preB s (i + 1) sLk = true := by
      rcases hk with rfl | rfl
      · obtain ⟨h1, h2, h3⟩ := (pre_cons (cs := [40, 107])).1 hp
        exact ⟨h1, kl.2.2.2.2.2.1.2 h2, h3⟩
      · obtain ⟨h1, h2, h3⟩ := (pre_cons (cs := [40, 107])).1 hp
        exact ⟨h1, kl.2.2.2.2.2.2.2 h2, h3⟩
    have ih := pr_pT t f (dEnd s (i + 3) + 1) m (nd + 1) hpr hok.2.2 (by omega)
    unfold pT
    rw [if_neg (by omega), if_neg (by omega), if_neg (by omega), if_neg (by omega), if_neg (by omega), if_pos (by omega), if_neg (by rw [hk'.2.2]; decide), show numR s (i + 1 + 2) = _ from hn]
    dsimp only
    rw [if_neg (by rw [hq]; decide), ih]
    dsimp only
    rw [if_neg (by rw [hq2]; decide)]
    simp only [Tr.size, Tr.val, hk'.2.1]
    rw [show nd + 1 + t.size = nd + (t.size + 1) by omega]

end Go.Proofs.YtcolcnkjcagbaaaDoor
