/-
  From a term that stands in the text to the specification's plain reader; the nodes of a term are right nodes; a term's text is what stands in the text. Plain data alone; no condition.
-/
import Derived.Test.YtcolcnkjcagbaaaDoorPr2
namespace Go.Proofs.YtcolcnkjcagbaaaDoor
open Go.RowKit
set_option linter.unusedVariables false

theorem pre_not {s p q : ByteArray} {i : Nat} {c d : UInt8} {cs ds : List UInt8} (h : preB s i { data := (c :: cs).toArray } = true) (hne : c ≠ d) : ¬ preB s i { data := (d :: ds).toArray } = true := by
  intro h2
  have h1 := pre_first h
  have h3 := pre_first h2
  apply hne
  exact UInt8.toNat_inj.1 (by omega)

theorem pr_qS {s : ByteArray} : ∀ (t : Tr) (f i j : Nat) (l : List Nd), Pr s t f i j → l.length + t.size ≤ 40 → qS s f i false l = ⟨((l.length + t.size : Nat) : Int) - 1, j, false, l ++ t.flat l.length⟩
  | t, 0, i, j, l, h, _ => by
    rcases t with ⟨(⟨k, n⟩ | t | ⟨t, u⟩ | ⟨k, n, t⟩)⟩ <;> exact absurd h.1 (by omega)
  | ⟨.inl (k, n)⟩, f + 1, i, j, l, h, hz => by
    obtain ⟨_, hk, hp, hr, rfl⟩ := h
    simp only [Tr.size] at hz
    have hq : qLeaf s k i l = ⟨((l.length + ((⟨.inl (k, n)⟩ : Tr)).size : Nat) : Int) - 1, dEnd s (i + 1), false, l ++ ((⟨.inl (k, n)⟩ : Tr)).flat l.length⟩ := by
      unfold qLeaf
      rw [num_of hr]
      unfold Rs.add Tr.size Tr.flat
      dsimp only
      congr 1
      omega
    unfold qS
    rw [if_neg (by simp; omega), ← hq]
    rcases hk with rfl | rfl | rfl
    · rw [if_pos (show preB s i sA = true from hp)]; rfl
    · rw [if_neg (show ¬ preB s i sA = true from pre_not (p := s) (q := s) (c := 107) (cs := []) (d := 97) (ds := []) hp (by decide)), if_pos (show preB s i sK = true from hp)]; rfl
    · rw [if_neg (show ¬ preB s i sA = true from pre_not (p := s) (q := s) (c := 118) (cs := []) (d := 97) (ds := []) hp (by decide)), if_neg (show ¬ preB s i sK = true from pre_not (p := s) (q := s) (c := 118) (cs := []) (d := 107) (ds := []) hp (by decide)), if_pos (show preB s i sV = true from hp)]; rfl
  | ⟨.inr (.inl t)⟩, f + 1, i, j, l, h, hz => by
    obtain ⟨_, hp, m, hpr, hq, rfl⟩ := h
    simp only [Tr.size] at hz
    have ih := pr_qS t f (i + 2) m l hpr (by omega)
    have hn : ∀ (d : UInt8) (ds : List UInt8), (104 : UInt8) ≠ d → ¬ preB s i { data := (d :: ds).toArray } = true := fun d ds hd => pre_not (p := s) (q := s) (c := 104) (cs := [40]) hp hd
    unfold qS
    rw [if_neg (by simp; omega), if_neg (show ¬ preB s i sA = true from hn 97 [] (by decide)), if_neg (show ¬ preB s i sK = true from hn 107 [] (by decide)), if_neg (show ¬ preB s i sV = true from hn 118 [] (by decide)), if_pos hp, ih, want_of hq]
    unfold Rs.add
    simp only [Tr.size, Tr.flat, List.append_assoc, List.length_append, Tr.flat_length]
    congr 1
    omega
  | ⟨.inr (.inr (.inl (t, u)))⟩, f + 1, i, j, l, h, hz => by
    obtain ⟨_, hp, m, hpr, hq, m2, hpr2, hq2, rfl⟩ := h
    simp only [Tr.size] at hz
    have ih := pr_qS t f (i + 2) m l hpr (by omega)
    have ih2 := pr_qS u f (m + 1) m2 (l ++ t.flat l.length) hpr2 (by rw [List.length_append, Tr.flat_length]; omega)
    have hn : ∀ (d : UInt8) (ds : List UInt8), (112 : UInt8) ≠ d → ¬ preB s i { data := (d :: ds).toArray } = true := fun d ds hd => pre_not (p := s) (q := s) (c := 112) (cs := [40]) hp hd
    unfold qS
    rw [if_neg (by simp; omega), if_neg (show ¬ preB s i sA = true from hn 97 [] (by decide)), if_neg (show ¬ preB s i sK = true from hn 107 [] (by decide)), if_neg (show ¬ preB s i sV = true from hn 118 [] (by decide)), if_neg (show ¬ preB s i sH = true from hn 104 [40] (by decide)), if_pos hp, ih, want_of hq]
    dsimp only
    rw [show m + sCm.size = m + 1 from rfl, ih2, want_of hq2]
    unfold Rs.add
    simp only [Tr.size, Tr.flat, List.append_assoc, List.length_append, Tr.flat_length]
    congr 1
    omega
  | ⟨.inr (.inr (.inr (k, n, t)))⟩, f + 1, i, j, l, h, hz => by
    obtain ⟨_, hk, hp, hr, hq, m, hpr, hq2, rfl⟩ := h
    simp only [Tr.size] at hz
    have ih := pr_qS t f (dEnd s (i + 3) + 1) m l hpr (by omega)
    have hn : ∀ (d : UInt8) (ds : List UInt8), (101 : UInt8) ≠ d → (115 : UInt8) ≠ d → ¬ preB s i { data := (d :: ds).toArray } = true := fun d ds hd hd2 => by
      rcases hk with rfl | rfl
      · exact pre_not (p := s) (q := s) (c := 101) (cs := [40, 107]) hp hd
      · exact pre_not (p := s) (q := s) (c := 115) (cs := [40, 107]) hp hd2
    have hes : preB s i sE = true ∨ preB s i sS = true := by
      rcases hk with rfl | rfl
      · exact .inl hp
      · exact .inr hp
    have hkk : (if preB s i sE = true then (6 : Int) else 7) = k := by
      rcases hk with rfl | rfl
      · rw [if_pos (show preB s i sE = true from hp)]; rfl
      · rw [if_neg (show ¬ preB s i sE = true from pre_not (p := s) (q := s) (c := 115) (cs := [40, 107]) (d := 101) (ds := [40, 107]) hp (by decide))]; rfl
    unfold qS
    rw [if_neg (by simp; omega), if_neg (show ¬ preB s i sA = true from hn 97 [] (by decide) (by decide)), if_neg (show ¬ preB s i sK = true from hn 107 [] (by decide) (by decide)), if_neg (show ¬ preB s i sV = true from hn 118 [] (by decide) (by decide)), if_neg (show ¬ preB s i sH = true from hn 104 [40] (by decide) (by decide)), if_neg (show ¬ preB s i sP = true from hn 112 [40] (by decide) (by decide)), if_pos hes, num_of hr]
    dsimp only
    rw [want_of hq]
    dsimp only
    rw [show dEnd s (i + 3) + sCm.size = dEnd s (i + 3) + 1 from rfl, ih, want_of hq2, hkk]
    unfold Rs.add
    simp only [Tr.size, Tr.flat, List.append_assoc, List.length_append, Tr.flat_length]
    congr 1
    omega

/-! ### Nodes -/
theorem nd_left {l m : List Nd} {i : Nat} (h : i < l.length) : ndK (l ++ m) i = ndK l i ∧ ndN (l ++ m) i = ndN l i ∧ ndA (l ++ m) i = ndA l i ∧ ndB (l ++ m) i = ndB l i := by
  have e : (l ++ m).getD i (0, 0, 0, 0) = l.getD i (0, 0, 0, 0) := by
    rw [List.getD_eq_getElem?_getD, List.getD_eq_getElem?_getD, List.getElem?_append_left h]
  unfold ndK ndN ndA ndB
  rw [e]
  exact ⟨rfl, rfl, rfl, rfl⟩

theorem nd_last {l : List Nd} {x : Nd} {m : List Nd} {i : Nat} (h : i = l.length) : ndK (l ++ [x] ++ m) i = x.1 ∧ ndN (l ++ [x] ++ m) i = x.2.1 ∧ ndA (l ++ [x] ++ m) i = x.2.2.1 ∧ ndB (l ++ [x] ++ m) i = x.2.2.2 := by
  have e : (l ++ [x] ++ m).getD i (0, 0, 0, 0) = x := by
    subst h
    rw [List.getD_eq_getElem?_getD, List.append_assoc, List.getElem?_append_right (Nat.le_refl _), Nat.sub_self]
    rfl
  unfold ndK ndN ndA ndB
  rw [e]
  exact ⟨rfl, rfl, rfl, rfl⟩

/-- the nodes of a term, wherever they stand, are a term that sits there -/
theorem sits_flat : ∀ (t : Tr) (p q : List Nd), Sits (ndK (p ++ t.flat p.length ++ q)) (ndN (p ++ t.flat p.length ++ q)) (ndA (p ++ t.flat p.length ++ q)) (ndB (p ++ t.flat p.length ++ q)) t p.length
  | ⟨.inl (k, n)⟩, p, q => by
    obtain ⟨h1, h2, h3, h4⟩ := nd_last (l := p) (x := ((k : Int), (n : Int), 0, 0)) (m := q) rfl
    exact ⟨h1, h2, h3, h4⟩
  | ⟨.inr (.inl t)⟩, p, q => by
    have ih := sits_flat t p ([(4, 0, ((p.length + t.size : Nat) : Int) - 1, 0)] ++ q)
    obtain ⟨h1, h2, h3, h4⟩ := nd_last (l := p ++ t.flat p.length) (x := (4, 0, ((p.length + t.size : Nat) : Int) - 1, 0)) (m := q) (i := p.length + t.size) (by rw [List.length_append, Tr.flat_length])
    simp only [Tr.flat, ← List.append_assoc] at ih h1 h2 h3 h4 ⊢
    exact ⟨ih, h1, h2, h3, h4⟩
  | ⟨.inr (.inr (.inl (t, u)))⟩, p, q => by
    have ih := sits_flat t p (u.flat (p.length + t.size) ++ [(5, 0, ((p.length + t.size : Nat) : Int) - 1, ((p.length + t.size + u.size : Nat) : Int) - 1)] ++ q)
    have ih2 := sits_flat u (p ++ t.flat p.length) ([(5, 0, ((p.length + t.size : Nat) : Int) - 1, ((p.length + t.size + u.size : Nat) : Int) - 1)] ++ q)
    obtain ⟨h1, h2, h3, h4⟩ := nd_last (l := p ++ t.flat p.length ++ u.flat (p.length + t.size)) (x := (5, 0, ((p.length + t.size : Nat) : Int) - 1, ((p.length + t.size + u.size : Nat) : Int) - 1)) (m := q) (i := p.length + t.size + u.size) (by rw [List.length_append, List.length_append, Tr.flat_length, Tr.flat_length])
    rw [List.length_append, Tr.flat_length] at ih2
    simp only [Tr.flat, ← List.append_assoc] at ih ih2 h1 h2 h3 h4 ⊢
    exact ⟨ih, ih2, h1, h2, h3, h4⟩
  | ⟨.inr (.inr (.inr (k, n, t)))⟩, p, q => by
    have ih := sits_flat t p ([((k : Int), (n : Int), ((p.length + t.size : Nat) : Int) - 1, 0)] ++ q)
    obtain ⟨h1, h2, h3, h4⟩ := nd_last (l := p ++ t.flat p.length) (x := ((k : Int), (n : Int), ((p.length + t.size : Nat) : Int) - 1, 0)) (m := q) (i := p.length + t.size) (by rw [List.length_append, Tr.flat_length])
    simp only [Tr.flat, ← List.append_assoc] at ih h1 h2 h3 h4 ⊢
    exact ⟨ih, h1, h2, h3, h4⟩

theorem sits_nodes (t : Tr) : Sits (ndK (t.flat 0)) (ndN (t.flat 0)) (ndA (t.flat 0)) (ndB (t.flat 0)) t 0 := by
  have := sits_flat t [] []
  simpa using this

def Tr.deep : Tr → Nat
  | ⟨.inl (_, _)⟩ => 1
  | ⟨.inr (.inl t)⟩ => t.deep + 1
  | ⟨.inr (.inr (.inl (t, u)))⟩ => max t.deep u.deep + 1
  | ⟨.inr (.inr (.inr (_, _, t)))⟩ => t.deep + 1

theorem pr_deep {s : ByteArray} : ∀ (t : Tr) (f i j : Nat), Pr s t f i j → t.deep ≤ f
  | ⟨.inl (k, n)⟩, f, i, j, h => h.1
  | ⟨.inr (.inl t)⟩, f, i, j, h => by
    obtain ⟨h1, _, m, hpr, _⟩ := h
    have := pr_deep t _ _ _ hpr
    simp only [Tr.deep]
    omega
  | ⟨.inr (.inr (.inl (t, u)))⟩, f, i, j, h => by
    obtain ⟨h1, _, m, hpr, _, m2, hpr2, _⟩ := h
    have := pr_deep t _ _ _ hpr
    have := pr_deep u _ _ _ hpr2
    simp only [Tr.deep]
    omega
  | ⟨.inr (.inr (.inr (k, n, t)))⟩, f, i, j, h => by
    obtain ⟨h1, _, _, _, _, m, hpr, _⟩ := h
    have := pr_deep t _ _ _ hpr
    simp only [Tr.deep]
    omega

/-- kinds are kinds -/
def Tr.Kinds : Tr → Prop
  | ⟨.inl (k, _)⟩ => k = 1 ∨ k = 2 ∨ k = 3
  | ⟨.inr (.inl t)⟩ => t.Kinds
  | ⟨.inr (.inr (.inl (t, u)))⟩ => t.Kinds ∧ u.Kinds
  | ⟨.inr (.inr (.inr (k, _, t)))⟩ => (k = 6 ∨ k = 7) ∧ t.Kinds

theorem pr_kinds {s : ByteArray} : ∀ (t : Tr) (f i j : Nat), Pr s t f i j → t.Kinds
  | ⟨.inl (k, n)⟩, f, i, j, h => h.2.1
  | ⟨.inr (.inl t)⟩, f, i, j, h => by
    obtain ⟨h1, _, m, hpr, _⟩ := h
    exact pr_kinds t _ _ _ hpr
  | ⟨.inr (.inr (.inl (t, u)))⟩, f, i, j, h => by
    obtain ⟨h1, _, m, hpr, _, m2, hpr2, _⟩ := h
    exact ⟨pr_kinds t _ _ _ hpr, pr_kinds u _ _ _ hpr2⟩
  | ⟨.inr (.inr (.inr (k, n, t)))⟩, f, i, j, h => by
    obtain ⟨h1, hk, _, _, _, m, hpr, _⟩ := h
    exact ⟨hk, pr_kinds t _ _ _ hpr⟩

section
variable {Kd N A B : Nat → Int}
theorem sits_tA : ∀ (t : Tr) (f o : Nat), t.Ok → Sits Kd N A B t o → t.deep ≤ f → tA Kd N A B f (((o + t.size : Nat) : Int) - 1) = some (t.val, (o : Int))
  | t, 0, o, _, _, h => by rcases t with ⟨(⟨k, n⟩ | t | ⟨t, u⟩ | ⟨k, n, t⟩)⟩ <;> (simp only [Tr.deep] at h; omega)
  | ⟨.inl (k, n)⟩, f + 1, o, hok, hs, h => by
    obtain ⟨k1, k2, k3, k4⟩ := hs
    rw [show (((o + ((⟨.inl (k, n)⟩ : Tr)).size : Nat) : Int) - 1) = (o : Int) by simp only [Tr.size]; omega]
    have hk := hok.1
    have hn := hok.2
    have hf : fOk (Kd o) (N o) (A o) (B o) = true := by
      rw [k1, k2, k3, k4, fOk_leaf (by omega), numB_true (by omega) (by omega)]; rfl
    rw [tA_leaf hf (by rw [k1]; omega), k1, k2]
    rfl
  | ⟨.inr (.inl t)⟩, f + 1, o, hok, hs, h => by
    obtain ⟨hs, k1, k2, k3, k4⟩ := hs
    simp only [Tr.deep] at h
    have ih := sits_tA t f o hok hs (by omega)
    rw [show (((o + ((⟨.inr (.inl t)⟩ : Tr)).size : Nat) : Int) - 1) = ((o + t.size : Nat) : Int) by simp only [Tr.size]; omega]
    have hf : fOk (Kd (o + t.size)) (N (o + t.size)) (A (o + t.size)) (B (o + t.size)) = true := by
      rw [k1, k2, k4, fOk_hash]; rfl
    rw [tA_hash hf k1 ih k3]
    rfl
  | ⟨.inr (.inr (.inl (t, u)))⟩, f + 1, o, hok, hs, h => by
    obtain ⟨hs, hs2, k1, k2, k3, k4⟩ := hs
    simp only [Tr.deep] at h
    have ih := sits_tA t f o hok.1 hs (by omega)
    have ih2 := sits_tA u f (o + t.size) hok.2 hs2 (by omega)
    rw [show (((o + ((⟨.inr (.inr (.inl (t, u)))⟩ : Tr)).size : Nat) : Int) - 1) = ((o + t.size + u.size : Nat) : Int) by simp only [Tr.size]; omega]
    have hf : fOk (Kd (o + t.size + u.size)) (N (o + t.size + u.size)) (A (o + t.size + u.size)) (B (o + t.size + u.size)) = true := by
      rw [k1, k2, fOk_pair]; rfl
    rw [tA_pair hf k1, pP_some ih2 k4 ih k3]
    rfl
  | ⟨.inr (.inr (.inr (k, n, t)))⟩, f + 1, o, hok, hs, h => by
    obtain ⟨hs, k1, k2, k3, k4⟩ := hs
    simp only [Tr.deep] at h
    have hk := hok.1
    have hn := hok.2.1
    have ih := sits_tA t f o hok.2.2 hs (by omega)
    rw [show (((o + ((⟨.inr (.inr (.inr (k, n, t)))⟩ : Tr)).size : Nat) : Int) - 1) = ((o + t.size : Nat) : Int) by simp only [Tr.size]; omega]
    have hf : fOk (Kd (o + t.size)) (N (o + t.size)) (A (o + t.size)) (B (o + t.size)) = true := by
      rw [k1, k2, k4, fOk_keyed (by omega), numB_true (by omega) (by omega)]; rfl
    rw [tA_keyed hf (by rw [k1]; omega) ih k3, k1, k2]
    rfl

theorem sits_sOk {t : Tr} (hok : t.Ok) (hs : Sits Kd N A B t 0) (hd : t.deep ≤ 10) (hz : t.size ≤ 40) : sOk Kd N A B t.size = true := by
  have hp := t.size_pos
  have h := sits_tA t 10 0 hok hs hd
  rw [Nat.zero_add] at h
  rw [sOk_tOf, tOf_some (by omega) h]
  rfl

theorem fOk_num {k n a b : Int} (h : fOk k n a b = true) : n ≤ 999 := (fOk_ways.1 h).2.1.2

theorem sits_ok : ∀ (t : Tr) (o : Nat), t.Kinds → Sits Kd N A B t o → (∀ i, o ≤ i → i < o + t.size → fOk (Kd i) (N i) (A i) (B i) = true) → t.Ok
  | ⟨.inl (k, n)⟩, o, hk, hs, h => by
    have := fOk_num (h o (Nat.le_refl _) (by simp only [Tr.size]; omega))
    rw [hs.2.1] at this
    exact ⟨hk, by omega⟩
  | ⟨.inr (.inl t)⟩, o, hk, hs, h => sits_ok t o hk hs.1 (fun i h1 h2 => h i h1 (by simp only [Tr.size]; omega))
  | ⟨.inr (.inr (.inl (t, u)))⟩, o, hk, hs, h => ⟨sits_ok t o hk.1 hs.1 (fun i h1 h2 => h i h1 (by simp only [Tr.size]; omega)), sits_ok u (o + t.size) hk.2 hs.2.1 (fun i h1 h2 => h i (by omega) (by simp only [Tr.size]; omega))⟩
  | ⟨.inr (.inr (.inr (k, n, t)))⟩, o, hk, hs, h => by
    have := fOk_num (h (o + t.size) (by omega) (by simp only [Tr.size]; omega))
    rw [hs.2.2.1] at this
    exact ⟨hk.1, by omega, sits_ok t o hk.2 hs.1 (fun i h1 h2 => h i h1 (by simp only [Tr.size]; omega))⟩

theorem sOk_ok {t : Tr} (hk : t.Kinds) (hs : Sits Kd N A B t 0) (h : sOk Kd N A B t.size = true) : t.Ok ∧ t.size ≤ 40 := by
  unfold sOk at h
  split at h
  · cases h
  rename_i hl
  rw [Bool.and_eq_true] at h
  refine ⟨sits_ok t 0 hk hs (fun i _ hi => ?_), by omega⟩
  have := h.1
  unfold allOk at this
  rw [List.all_eq_true] at this
  exact this i (List.mem_range.2 (by omega))
end

end Go.Proofs.YtcolcnkjcagbaaaDoor
