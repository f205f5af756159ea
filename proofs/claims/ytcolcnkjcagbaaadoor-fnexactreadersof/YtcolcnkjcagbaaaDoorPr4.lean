/-
  A term's text is what stands in the text; the specification's ReadTerm takes just what the program's termOfText takes. No condition but the text's length.
-/
import Derived.Test.YtcolcnkjcagbaaaDoorPr3
namespace Go.Proofs.YtcolcnkjcagbaaaDoor
open Go.RowKit
set_option linter.unusedVariables false

theorem ba_ext {a b : ByteArray} (h : a.data.toList = b.data.toList) : a = b := by
  apply ByteArray.ext
  exact Array.toList_inj.1 h

theorem extract_list (s : ByteArray) (i j : Nat) : (s.extract i j).data.toList = (s.data.toList.drop i).take (j - i) := by
  rw [← Lib.toList_data, Lib.extract_toList]

theorem extract_add {s : ByteArray} {i m j : Nat} (h1 : i ≤ m) (h2 : m ≤ j) : s.extract i m ++ s.extract m j = s.extract i j := by
  apply ba_ext
  rw [ByteArray.data_append, Array.toList_append, extract_list, extract_list, extract_list]
  have e : s.data.toList.drop m = (s.data.toList.drop i).drop (m - i) := by rw [List.drop_drop]; congr 1; omega
  rw [e, show j - i = (m - i) + (j - m) by omega, List.take_add]

theorem pre_extract {s p : ByteArray} {i : Nat} (h : preB s i p = true) : s.extract i (i + p.size) = p := by
  apply ba_ext
  rw [extract_list]
  unfold preB Lib.hasPrefix at h
  rw [List.isPrefixOf_iff_prefix] at h
  obtain ⟨t, ht⟩ := h
  rw [← ht, Nat.add_sub_cancel_left, Lib.size_eq, List.take_left]

theorem extract_one {u : ByteArray} {m : Nat} (h : m < u.size) : u.extract m (m + 1) = dgI (bt u m) := by
  have hp : preB u m { data := #[u[m]] } = true := pre_one.2 ⟨h, (bt_in h).symm⟩
  have := pre_extract hp
  rw [show m + (ByteArray.mk #[u[m]]).size = m + 1 from rfl] at this
  rw [this, ← bt_in h]
  unfold dgI
  simp

theorem dec_digits {u : ByteArray} (h0 : bt u 0 ≠ 48) : ∀ m, 1 ≤ m → m ≤ u.size → digsB u 0 m = true → 1 ≤ numOf u 0 m ∧ decB (numOf u 0 m).toNat = u.extract 0 m
  | 0, h, _, _ => by omega
  | 1, _, hm, hd => by
    rw [digsB_succ, Bool.and_eq_true] at hd
    have hd := digB_iff.1 hd.2
    rw [Nat.zero_add] at hd
    have e : numOf u 0 1 = bt u 0 - 48 := by simp [numOf]
    rw [e]
    refine ⟨by omega, ?_⟩
    rw [decB_one (by omega), extract_one (by omega)]
    congr 1
    omega
  | m + 2, _, hm, hd => by
    rw [digsB_succ, Bool.and_eq_true] at hd
    obtain ⟨ih1, ih2⟩ := dec_digits h0 (m + 1) (by omega) (by omega) hd.1
    have hd := digB_iff.1 hd.2
    rw [Nat.zero_add] at hd
    have e : numOf u 0 (m + 2) = 10 * numOf u 0 (m + 1) + (bt u (m + 1) - 48) := by
      rw [show numOf u 0 (m + 2) = 10 * numOf u 0 (m + 1) + (bt u (0 + (m + 1)) - 48) from rfl, Nat.zero_add]
    rw [e]
    refine ⟨by omega, ?_⟩
    rw [decB_more (by omega), show (10 * numOf u 0 (m + 1) + (bt u (m + 1) - 48)).toNat / 10 = (numOf u 0 (m + 1)).toNat by omega, ih2, ← extract_add (i := 0) (m := m + 1) (j := m + 2) (by omega) (by omega), extract_one (by omega)]
    congr 2
    omega

theorem rdec_dec {u : ByteArray} {n : Nat} (h : rdec u = ((n : Int), true)) : decB n = u := by
  unfold rdec at h
  split at h
  · simp at h
  rename_i hc
  split at h
  · rename_i hd
    simp at h
    have hfull : u.extract 0 u.size = u := by
      apply ba_ext
      rw [extract_list, Nat.sub_zero, List.drop_zero, Lib.size_eq, List.take_length]
    by_cases h0 : bt u 0 = 48
    · have h1 : u.size = 1 := by omega
      rw [h1] at h
      have e : numOf u 0 1 = bt u 0 - 48 := by simp [numOf]
      rw [e, h0] at h
      have hn : n = 0 := by omega
      subst hn
      rw [← hfull, h1, extract_one (m := 0) (by omega), h0, decB_one (by omega)]
      rfl
    · have := (dec_digits h0 u.size (by omega) (Nat.le_refl _) hd).2
      rw [h, hfull] at this
      simpa using this
  · simp at h

theorem txt_leaf (k n : Nat) : ((⟨.inl (k, n)⟩ : Tr)).txt = Tr.head k ++ decB n := by rw [Tr.txt]
theorem txt_hash (t : Tr) : ((⟨.inr (.inl t)⟩ : Tr)).txt = (sH ++ t.txt) ++ sRp := by rw [Tr.txt]; unfold sH sRp; rfl
theorem txt_pair (t u : Tr) : ((⟨.inr (.inr (.inl (t, u)))⟩ : Tr)).txt = (((sP ++ t.txt) ++ sCm) ++ u.txt) ++ sRp := by rw [Tr.txt]; unfold sP sCm sRp; rfl
theorem txt_keyed (k n : Nat) (t : Tr) : ((⟨.inr (.inr (.inr (k, n, t)))⟩ : Tr)).txt = (((Tr.head k ++ decB n) ++ sCm) ++ t.txt) ++ sRp := by rw [Tr.txt]; unfold sCm sRp; rfl

theorem zsH : sH.size = 2 := rfl
theorem zsP : sP.size = 2 := rfl
theorem zsCm : sCm.size = 1 := rfl
theorem zsRp : sRp.size = 1 := rfl

set_option maxHeartbeats 400000 in
theorem pr_txt {s : ByteArray} : ∀ (t : Tr) (f i j : Nat), i ≤ s.size → Pr s t f i j → i ≤ j ∧ j ≤ s.size ∧ s.extract i j = t.txt
  | ⟨.inl (k, n)⟩, f, i, j, hi, h => by
    obtain ⟨_, hk, hp, hr, rfl⟩ := h
    have hz : (Tr.head k).size = 1 := by rcases hk with rfl | rfl | rfl <;> rfl
    have hrm := preB_room hi hp
    rw [hz] at hrm
    have hd := dEnd_is s (i + 1) hrm
    have hx := pre_extract hp
    rw [hz] at hx
    refine ⟨by have := hd.1; omega, hd.2.1, ?_⟩
    rw [← extract_add (i := i) (m := i + 1) (by omega) hd.1, hx, ← rdec_dec hr, txt_leaf]
  | ⟨.inr (.inl t)⟩, f, i, j, hi, h => by
    obtain ⟨_, hp, m, hpr, hq, rfl⟩ := h
    have hrm : i + 2 ≤ s.size := preB_room hi hp
    obtain ⟨a1, a2, a3⟩ := pr_txt t _ _ _ hrm hpr
    have hrm2 : m + 1 ≤ s.size := preB_room a2 hq
    have x1 := pre_extract hp
    rw [zsH] at x1
    have x2 := pre_extract hq
    rw [zsRp] at x2
    refine ⟨by omega, hrm2, ?_⟩
    rw [← extract_add (i := i) (m := m) (by omega) (by omega), ← extract_add (i := i) (m := i + 2) (by omega) a1, x1, x2, a3, txt_hash]
  | ⟨.inr (.inr (.inl (t, u)))⟩, f, i, j, hi, h => by
    obtain ⟨_, hp, m, hpr, hq, m2, hpr2, hq2, rfl⟩ := h
    have hrm : i + 2 ≤ s.size := preB_room hi hp
    obtain ⟨a1, a2, a3⟩ := pr_txt t _ _ _ hrm hpr
    have hrm2 : m + 1 ≤ s.size := preB_room a2 hq
    obtain ⟨b1, b2, b3⟩ := pr_txt u _ _ _ hrm2 hpr2
    have hrm3 : m2 + 1 ≤ s.size := preB_room b2 hq2
    have x1 := pre_extract hp
    rw [zsP] at x1
    have x2 := pre_extract hq
    rw [zsCm] at x2
    have x3 := pre_extract hq2
    rw [zsRp] at x3
    refine ⟨by omega, hrm3, ?_⟩
    rw [← extract_add (i := i) (m := m2) (by omega) (by omega), ← extract_add (i := i) (m := m + 1) (by omega) b1, ← extract_add (i := i) (m := m) (by omega) (by omega), ← extract_add (i := i) (m := i + 2) (by omega) a1, x1, x2, x3, a3, b3, txt_pair]
  | ⟨.inr (.inr (.inr (k, n, t)))⟩, f, i, j, hi, h => by
    obtain ⟨_, hk, hp, hr, hq, m, hpr, hq2, rfl⟩ := h
    have hz : (Tr.head k).size = 3 := by rcases hk with rfl | rfl <;> rfl
    have hrm := preB_room hi hp
    rw [hz] at hrm
    have hd := dEnd_is s (i + 3) hrm
    have hd1 := hd.1
    have hd2 := hd.2.1
    have x1 := pre_extract hp
    rw [hz] at x1
    have hrm2 : dEnd s (i + 3) + 1 ≤ s.size := preB_room hd2 hq
    obtain ⟨a1, a2, a3⟩ := pr_txt t _ _ _ hrm2 hpr
    have hrm3 : m + 1 ≤ s.size := preB_room a2 hq2
    have x2 := pre_extract hq
    rw [zsCm] at x2
    have x3 := pre_extract hq2
    rw [zsRp] at x3
    refine ⟨by omega, hrm3, ?_⟩
    rw [← extract_add (i := i) (m := m) (by omega) (by omega), ← extract_add (i := i) (m := dEnd s (i + 3) + 1) (by omega) a1, ← extract_add (i := i) (m := dEnd s (i + 3)) (by omega) (by omega), ← extract_add (i := i) (m := i + 3) (by omega) hd1, x1, x2, x3, a3, ← rdec_dec hr, txt_keyed]

theorem pr_pos {s : ByteArray} {f i j : Nat} (t : Tr) (hi : i ≤ s.size) (h : Pr s t f i j) : i < s.size := by
  match t, h with
  | ⟨.inl (k, n)⟩, h =>
    have hk := h.2.1
    have := preB_room hi h.2.2.1
    have hz : (Tr.head k).size = 1 := by rcases hk with rfl | rfl | rfl <;> rfl
    omega
  | ⟨.inr (.inl t)⟩, h =>
    have := preB_room hi h.2.1
    rw [zsH] at this
    omega
  | ⟨.inr (.inr (.inl (t, u)))⟩, h =>
    have := preB_room hi h.2.1
    rw [zsP] at this
    omega
  | ⟨.inr (.inr (.inr (k, n, t)))⟩, h =>
    have hk := h.2.1
    have := preB_room hi h.2.2.1
    have hz : (Tr.head k).size = 3 := by rcases hk with rfl | rfl <;> rfl
    omega

theorem extract_all (s : ByteArray) : s.extract 0 s.size = s := by
  apply ba_ext
  rw [extract_list, Nat.sub_zero, List.drop_zero, Lib.size_eq, List.take_length]

/-- what the program's reader takes is a term whose text this is -/
theorem rT_tr {s : ByteArray} {v : Value} (h : rT s = some v) : ∃ t, Pr s t 10 0 s.size ∧ t.Ok ∧ t.size ≤ 40 ∧ t.txt = s ∧ v = t.val := by
  unfold rT at h
  split at h
  · cases h
  rename_i v' j m e
  split at h
  · rename_i hj
    subst hj
    simp at h
    subst h
    have b := pT_bound _ _ _ _ _ _ (Nat.zero_le _) e
    obtain ⟨t, hpr, hok, rfl, rfl⟩ := pT_pr _ _ _ _ _ _ (Nat.zero_le _) e
    have hx := (pr_txt t _ _ _ (Nat.zero_le _) hpr).2.2
    rw [extract_all] at hx
    exact ⟨t, hpr, hok, by omega, hx.symm, rfl⟩
  · cases h

theorem tr_rT {s : ByteArray} {t : Tr} (h : Pr s t 10 0 s.size) (hok : t.Ok) (hz : t.size ≤ 40) : rT s = some t.val :=
  rT_some (pr_pT t 10 0 s.size 0 h hok (by omega)) rfl

end Go.Proofs.YtcolcnkjcagbaaaDoor
