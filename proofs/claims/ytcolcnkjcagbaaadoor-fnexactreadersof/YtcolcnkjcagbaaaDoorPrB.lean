/-
  A term's text reads back as that term: plain data alone; no condition but that the term is right.
-/
import Derived.Test.YtcolcnkjcagbaaaDoorPr4
namespace Go.Proofs.YtcolcnkjcagbaaaDoor
open Go.RowKit
set_option linter.unusedVariables false

theorem pre_of {s p : ByteArray} {i : Nat} {q : List UInt8} (h : s.data.toList.drop i = p.data.toList ++ q) : preB s i p = true := by
  unfold preB Lib.hasPrefix
  rw [List.isPrefixOf_iff_prefix]
  exact ⟨q, h.symm⟩
theorem drop_next {s p : ByteArray} {i : Nat} {q : List UInt8} (h : s.data.toList.drop i = p.data.toList ++ q) : s.data.toList.drop (i + p.size) = q := by
  rw [← List.drop_drop, h, Lib.size_eq p, List.drop_left]
/-- no digit stands first in q -/
def NoDig (q : List UInt8) : Prop := ∀ c r, q = c :: r → digB (c.toNat : Int) = false

theorem dg_nat (m : Nat) : dgI (48 + (m : Int)) = ⟨#[UInt8.ofNat (48 + m)]⟩ := by
  unfold dgI
  rw [show (48 + (m : Int)).toNat = 48 + m by omega]
theorem rdec_1 : ∀ a : Fin 10, rdec ⟨#[UInt8.ofNat (48 + a.val)]⟩ = ((a.val : Int), true) := by decide +kernel
theorem rdec_2 : ∀ a b : Fin 10, a.val ≠ 0 → rdec ⟨#[UInt8.ofNat (48 + a.val), UInt8.ofNat (48 + b.val)]⟩ = (((10 * a.val + b.val : Nat) : Int), true) := by decide +kernel
theorem rdec_3 : ∀ a b c : Fin 10, a.val ≠ 0 → rdec ⟨#[UInt8.ofNat (48 + a.val), UInt8.ofNat (48 + b.val), UInt8.ofNat (48 + c.val)]⟩ = (((100 * a.val + 10 * b.val + c.val : Nat) : Int), true) := by decide +kernel

theorem rdec_back {n : Nat} (hn : n ≤ 999) : rdec (decB n) = ((n : Int), true) := by
  by_cases h1 : n < 10
  · rw [decB_one h1, dg_nat]
    exact rdec_1 ⟨n, h1⟩
  · rw [decB_more h1, show (48 + (n : Int) % 10) = 48 + ((n % 10 : Nat) : Int) by omega, dg_nat]
    by_cases h2 : n / 10 < 10
    · rw [decB_one h2, dg_nat]
      have := rdec_2 ⟨n / 10, h2⟩ ⟨n % 10, by omega⟩ (by show n / 10 ≠ 0; omega)
      rw [show (10 * (n / 10) + n % 10 : Nat) = n by omega] at this
      exact this
    · rw [decB_more h2, show (48 + ((n / 10 : Nat) : Int) % 10) = 48 + ((n / 10 % 10 : Nat) : Int) by omega, dg_nat, decB_one (show n / 10 / 10 < 10 by omega), dg_nat]
      have := rdec_3 ⟨n / 10 / 10, by omega⟩ ⟨n / 10 % 10, by omega⟩ ⟨n % 10, by omega⟩ (by show n / 10 / 10 ≠ 0; omega)
      rw [show (100 * (n / 10 / 10) + 10 * (n / 10 % 10) + n % 10 : Nat) = n by omega] at this
      exact this

theorem bt_get {s : ByteArray} {t : Nat} {c : UInt8} (h : s.data.toList[t]? = some c) : bt s t = (c.toNat : Int) := by
  obtain ⟨hlt, rfl⟩ := List.getElem?_eq_some_iff.1 h
  have h2 : t < s.size := by rw [Lib.size_eq]; exact hlt
  rw [← bt_in h2]
  rfl
theorem rdec_digs {u : ByteArray} {n : Int} (h : rdec u = (n, true)) : digsB u 0 u.size = true := by
  unfold rdec at h
  split at h
  · cases h
  · split at h
    · assumption
    · cases h
theorem digs_at {u : ByteArray} {k : Nat} (h : digsB u 0 u.size = true) (hk : k < u.size) : digB (bt u k) = true := by
  unfold digsB at h
  rw [List.all_eq_true] at h
  have := h k (List.mem_range.2 hk)
  simpa using this

theorem num_back {s : ByteArray} {i n : Nat} {q : List UInt8} (hn : n ≤ 999) (h : s.data.toList.drop i = (decB n).data.toList ++ q) (hq : NoDig q) (hi : i ≤ s.size) : dEnd s i = i + (decB n).size ∧ rdec (s.extract i (dEnd s i)) = ((n : Int), true) := by
  have hx : s.extract i (i + (decB n).size) = decB n := pre_extract (pre_of h)
  have hr := rdec_back hn
  have hl := congrArg List.length h
  rw [List.length_drop, List.length_append, ← Lib.size_eq, ← Lib.size_eq] at hl
  have key : ∀ j, s.data.toList[i + j]? = ((decB n).data.toList ++ q)[j]? := fun j => by rw [← h, List.getElem?_drop]
  have hE : IsEnd s i (i + (decB n).size) := by
    refine ⟨by omega, by omega, fun t h1 h2 => ?_, fun h2 => ?_⟩
    · have hk := key (t - i)
      rw [show i + (t - i) = t by omega, List.getElem?_append_left (by rw [← Lib.size_eq]; omega)] at hk
      obtain ⟨c, hc⟩ : ∃ c, (decB n).data.toList[t - i]? = some c := ⟨_, List.getElem?_eq_getElem (by rw [← Lib.size_eq]; omega)⟩
      rw [bt_get (hk.trans hc), ← bt_get hc]
      exact digs_at (rdec_digs hr) (by omega)
    · have hk := key (decB n).size
      rw [List.getElem?_append_right (by rw [← Lib.size_eq]; exact Nat.le_refl _), ← Lib.size_eq, Nat.sub_self] at hk
      cases q with
      | nil => simp at hl; omega
      | cons c r =>
        rw [bt_get (hk.trans rfl)]
        exact hq c r rfl
  have e := dEnd_of hE
  exact ⟨e, by rw [e, hx]; exact hr⟩

theorem noDig_cm (q : List UInt8) : NoDig (sCm.data.toList ++ q) := fun c r e => by
  have : (44 : UInt8) :: q = c :: r := e
  cases this
  decide
theorem noDig_rp (q : List UInt8) : NoDig (sRp.data.toList ++ q) := fun c r e => by
  have : (41 : UInt8) :: q = c :: r := e
  cases this
  decide
theorem app_list (a b : ByteArray) : (a ++ b).data.toList = a.data.toList ++ b.data.toList := by rw [ByteArray.data_append, Array.toList_append]

theorem txt_pr {s : ByteArray} : ∀ (t : Tr) (f i : Nat) (q : List UInt8), t.Ok → t.deep ≤ f → i ≤ s.size → s.data.toList.drop i = t.txt.data.toList ++ q → NoDig q → Pr s t f i (i + t.txt.size)
  | ⟨.inl (k, n)⟩, f, i, q, hok, hd, hi, h, hq => by
    obtain ⟨hk, hn⟩ := hok
    have hz : (Tr.head k).size = 1 := by rcases hk with rfl | rfl | rfl <;> rfl
    rw [txt_leaf, app_list, List.append_assoc] at h
    have h1 := drop_next h
    rw [hz] at h1
    have hrm := preB_room hi (pre_of h)
    rw [hz] at hrm
    obtain ⟨e1, e2⟩ := num_back hn h1 hq hrm
    refine ⟨hd, hk, pre_of h, e2, ?_⟩
    rw [txt_leaf, e1, ByteArray.size_append, hz]
    omega
  | ⟨.inr (.inl t)⟩, f, i, q, hok, hd, hi, h, hq => by
    simp only [Tr.deep] at hd
    rw [txt_hash, app_list, app_list, List.append_assoc, List.append_assoc] at h
    have h1 := drop_next h
    rw [zsH] at h1
    have hrm := preB_room hi (pre_of h)
    rw [zsH] at hrm
    have hp := txt_pr t (f - 1) (i + 2) _ hok (by omega) hrm h1 (noDig_rp q)
    have h2 := drop_next h1
    refine ⟨by omega, pre_of h, _, hp, pre_of h2, ?_⟩
    rw [txt_hash, ByteArray.size_append, ByteArray.size_append, zsH, zsRp]
    omega
  | ⟨.inr (.inr (.inl (t, u)))⟩, f, i, q, hok, hd, hi, h, hq => by
    simp only [Tr.deep] at hd
    rw [txt_pair, app_list, app_list, app_list, app_list, List.append_assoc, List.append_assoc, List.append_assoc, List.append_assoc] at h
    have h1 := drop_next h
    rw [zsP] at h1
    have hrm := preB_room hi (pre_of h)
    rw [zsP] at hrm
    have hp := txt_pr t (f - 1) (i + 2) _ hok.1 (by omega) hrm h1 (noDig_cm _)
    have h2 := drop_next h1
    have hrm2 : i + 2 + t.txt.size ≤ s.size := (pr_txt t _ _ _ hrm hp).2.1
    have h3 := drop_next h2
    rw [zsCm] at h3
    have hrm3 := preB_room hrm2 (pre_of h2)
    rw [zsCm] at hrm3
    have hp2 := txt_pr u (f - 1) (i + 2 + t.txt.size + 1) _ hok.2 (by omega) hrm3 h3 (noDig_rp q)
    have h4 := drop_next h3
    refine ⟨by omega, pre_of h, _, hp, pre_of h2, _, hp2, pre_of h4, ?_⟩
    rw [txt_pair, ByteArray.size_append, ByteArray.size_append, ByteArray.size_append, ByteArray.size_append, zsP, zsCm, zsRp]
    omega
  | ⟨.inr (.inr (.inr (k, n, t)))⟩, f, i, q, hok, hd, hi, h, hq => by
    obtain ⟨hk, hn, hok⟩ := hok
    simp only [Tr.deep] at hd
    have hz : (Tr.head k).size = 3 := by rcases hk with rfl | rfl <;> rfl
    rw [txt_keyed, app_list, app_list, app_list, app_list, List.append_assoc, List.append_assoc, List.append_assoc, List.append_assoc] at h
    have h1 := drop_next h
    rw [hz] at h1
    have hrm := preB_room hi (pre_of h)
    rw [hz] at hrm
    obtain ⟨e1, e2⟩ := num_back hn h1 (noDig_cm _) hrm
    have h2 := drop_next h1
    rw [← e1] at h2
    have hrm2 : dEnd s (i + 3) ≤ s.size := (dEnd_is s (i + 3) hrm).2.1
    have h3 := drop_next h2
    rw [zsCm] at h3
    have hrm3 := preB_room hrm2 (pre_of h2)
    rw [zsCm] at hrm3
    have hp := txt_pr t (f - 1) (dEnd s (i + 3) + 1) _ hok (by omega) hrm3 h3 (noDig_rp q)
    have h4 := drop_next h3
    refine ⟨by omega, hk, pre_of h, e2, pre_of h2, _, hp, pre_of h4, ?_⟩
    rw [txt_keyed, ByteArray.size_append, ByteArray.size_append, ByteArray.size_append, ByteArray.size_append, hz, zsCm, zsRp, e1]
    omega

/-- a right term's text is read as that term -/
theorem rT_txt {t : Tr} (hok : t.Ok) (hz : t.size ≤ 40) (hd : t.deep ≤ 10) : rT t.txt = some t.val := by
  have := txt_pr (s := t.txt) t 10 0 [] hok hd (Nat.zero_le _) (by simp) (fun c r e => by cases e)
  rw [Nat.zero_add] at this
  exact tr_rT this hok hz
end Go.Proofs.YtcolcnkjcagbaaaDoor
