/-
  SeqTurned, plainly: what it makes of a sequence shows just the text. No condition.
  Two put in two signs each at one place, neither knowing of the other: what both make of it, plainly. No condition.
  spec's r.seq(10): a drawn sequence has few ops, of small Ids. No condition but that the code reads.
  spec.DrawSeqInserted. No condition but that the code reads.
  What FnSeqBoth's four inserts are, plainly. No condition.
-/
import Derived.Test.YtjfciokpnhnhbaaSqPd
import Derived.Test.YtjfciokpnhnhbaaSqTu
import Derived.Test.YtjfciokpnhnhbaaSqM7
import Derived.Test.YtjfciokpnhnhbaaSqDr
import Derived.Test.YtjfciokpnhnhbaaSqM6
namespace Go.Proofs.Ytjfciokpnhnhbaa
open Go.RowKit
set_option linter.unusedVariables false

/-- the bytes of a text, as a list -/
def bl (s : ByteArray) : List UInt8 := s.data.toList
theorem bl_inj {s t : ByteArray} (h : bl s = bl t) : s = t := ByteArray.ext (Array.ext' h)
theorem bl_len (s : ByteArray) : (bl s).length = s.size := rfl
theorem bl_append (s t : ByteArray) : bl (s ++ t) = bl s ++ bl t := by unfold bl; rw [ByteArray.data_append, Array.toList_append]
theorem bl_extract (s : ByteArray) (i j : Nat) : bl (s.extract i j) = ((bl s).drop i).take (j - i) := by
  unfold bl
  rw [ByteArray.data_extract, Array.toList_extract]
theorem bl_left (s : ByteArray) (j : Nat) : bl (s.extract 0 j) = (bl s).take j := by rw [bl_extract]; rfl
theorem bl_right (s : ByteArray) (i : Nat) : bl (s.extract i s.size) = (bl s).drop i := by
  rw [bl_extract]
  exact List.take_of_length_le (by rw [List.length_drop, bl_len]; omega)
theorem bl_at {s t : ByteArray} {i j : Nat} (hi : i < s.size) (hj : j < t.size) (h : bt s i = bt t j) : (bl s)[i]? = (bl t)[j]? := by
  rw [← bt_in hi, ← bt_in hj] at h
  have h1 : s[i] = t[j] := by
    apply UInt8.toNat_inj.1
    omega
  have e1 : (bl s)[i]? = some s[i] := by rw [List.getElem?_eq_getElem (show i < (bl s).length from hi)]; rfl
  have e2 : (bl t)[j]? = some t[j] := by rw [List.getElem?_eq_getElem (show j < (bl t).length from hj)]; rfl
  rw [e1, e2, h1]
theorem gD_snoc (A : List Ev) (x : Ev) : gD (A ++ [x]) = snocD (gD A) A.length x := funext fun i => by unfold snocD; rw [listD_gD]; rfl
def txt (A : List Ev) : ByteArray := textR (gD A) A.length
def okA (A : List Ev) : Prop := seqB (gD A) A.length = true
theorem stD_text {author z : Int} {A B : List Ev} (hs : stD author z A = some B) :
    ∃ x, B = A ++ [x] ∧ okA A ∧ okA B ∧ ∃ j : Nat, z = (j : Int) ∧ j < (txt A).size ∧ bl (txt B) = (bl (txt A)).take j ++ (bl (txt A)).drop (j + 1) := by
  unfold stD at hs
  by_cases hk : okD (gD A) A.length author z = true
  · rw [if_pos hk] at hs
    obtain rfl := Option.some.inj hs
    unfold okD okW at hk
    simp only [Bool.and_eq_true] at hk
    obtain ⟨k1, ⟨k2, k3⟩, k4⟩ := hk
    unfold inB at k1
    simp only [Bool.and_eq_true, decide_eq_true_eq] at k1
    have hj : z.toNat < (idsR (gD A) A.length).length := by omega
    refine ⟨_, rfl, k2, ?_, z.toNat, by omega, by unfold txt; rw [text_size k2]; exact hj, ?_⟩
    · unfold okA
      rw [gD_snoc, List.length_append]
      exact k4
    · unfold txt
      rw [gD_snoc, List.length_append]
      have := text_del k2 k4 rfl hj rfl
      rw [show ([opD (gD A) A.length author z] : List Ev).length = 1 from rfl, this, bl_append, bl_left, bl_right]
  · rw [if_neg hk] at hs
    cases hs
theorem stI_text {author z : Int} {sg : ByteArray} {A B : List Ev} (hs : stI author z sg A = some B) :
    ∃ x, B = A ++ [x] ∧ okA A ∧ okA B ∧ ∃ j : Nat, z = (j : Int) ∧ j ≤ (txt A).size ∧ bl (txt B) = (bl (txt A)).take j ++ bl sg ++ (bl (txt A)).drop j := by
  unfold stI at hs
  by_cases hk : okI (gD A) A.length author z sg = true
  · rw [if_pos hk] at hs
    obtain rfl := Option.some.inj hs
    unfold okI okW at hk
    simp only [Bool.and_eq_true] at hk
    obtain ⟨k1, ⟨k2, k3⟩, k4⟩ := hk
    unfold inB at k1
    simp only [Bool.and_eq_true, decide_eq_true_eq] at k1
    obtain ⟨j, rfl⟩ : ∃ j : Nat, z = (j : Int) := ⟨z.toNat, by omega⟩
    have hj : j ≤ (idsR (gD A) A.length).length := by omega
    refine ⟨_, rfl, k2, ?_, j, rfl, by unfold txt; rw [text_size k2]; exact hj, ?_⟩
    · unfold okA
      rw [gD_snoc, List.length_append]
      exact k4
    · unfold txt
      rw [gD_snoc, List.length_append]
      have := text_ins k2 k4 rfl hj rfl
      rw [show ([opI (gD A) A.length author (j : Int) sg] : List Ev).length = 1 from rfl, this, bl_append, bl_append, bl_left, bl_right]
      rfl
  · rw [if_neg hk] at hs
    cases hs
theorem cut_take {L M : List UInt8} {b : Nat} (h : b ≤ L.length) : (L.take b ++ M).take b = L.take b := by
  rw [List.take_append_of_le_length (by rw [List.length_take]; omega), List.take_take, Nat.min_self]
theorem cut_drop {L M : List UInt8} {b k : Nat} (h : b ≤ L.length) : (L.take b ++ M).drop (b + k) = M.drop k := by
  rw [List.drop_append, List.drop_of_length_le (by rw [List.length_take]; omega), List.length_take, Nat.min_eq_left h, show b + k - b = k by omega]
  rfl
theorem itD_text {author : Int} {b : Nat} : ∀ (k : Nat) (A B : List Ev), okA A → b + k ≤ (txt A).size → itD author (b : Int) k A = some B →
    okA B ∧ (∃ C, B = A ++ C ∧ C.length = k) ∧ bl (txt B) = (bl (txt A)).take b ++ (bl (txt A)).drop (b + k) := by
  intro k
  induction k with
  | zero =>
    intro A B h hb hs
    obtain rfl := Option.some.inj (show some A = some B from hs)
    exact ⟨h, ⟨[], by simp, rfl⟩, by rw [Nat.add_zero, List.take_append_drop]⟩
  | succ k ih =>
    intro A B h hb hs
    cases h1 : stD author (b : Int) A with
    | none =>
      rw [itD_no h1] at hs
      cases hs
    | some B1 =>
      rw [itD_yes h1] at hs
      obtain ⟨x, rfl, _, o1, j, hj, hjs, ht⟩ := stD_text h1
      obtain rfl : b = j := by omega
      have hl : (bl (txt (A ++ [x]))).length = (txt A).size - 1 := by
        rw [ht, List.length_append, List.length_take, List.length_drop, bl_len]
        omega
      rw [bl_len] at hl
      obtain ⟨o2, ⟨C, rfl, hC⟩, ht2⟩ := ih (A ++ [x]) B o1 (by omega) hs
      refine ⟨o2, ⟨x :: C, by simp, by simp [hC]⟩, ?_⟩
      rw [ht2, ht, cut_take (by rw [bl_len]; omega), cut_drop (by rw [bl_len]; omega), List.drop_drop]
      congr 2
      omega
theorem itI_text {author : Int} {t : ByteArray} : ∀ (k i : Nat) (A B : List Ev), okA A → i ≤ (txt A).size → i + k ≤ t.size → itI author t k i A = some B →
    okA B ∧ (∃ C, B = A ++ C ∧ C.length = k) ∧ bl (txt B) = (bl (txt A)).take i ++ ((bl t).drop i).take k ++ (bl (txt A)).drop i := by
  intro k
  induction k with
  | zero =>
    intro i A B h hb _ hs
    obtain rfl := Option.some.inj (show some A = some B from hs)
    exact ⟨h, ⟨[], by simp, rfl⟩, by rw [List.take_zero, List.append_nil, List.take_append_drop]⟩
  | succ k ih =>
    intro i A B h hb hk hs
    cases h1 : stI author (i : Int) (t.extract i (i + 1)) A with
    | none =>
      rw [itI_no h1] at hs
      cases hs
    | some B1 =>
      rw [itI_yes h1] at hs
      obtain ⟨x, rfl, _, o1, j, hj, hjs, ht⟩ := stI_text h1
      obtain rfl : i = j := by omega
      have hi : i < (bl t).length := by rw [bl_len]; omega
      have hd : (bl t).drop i = (bl t)[i] :: (bl t).drop (i + 1) := List.drop_eq_getElem_cons hi
      have hsg : bl (t.extract i (i + 1)) = [(bl t)[i]] := by
        rw [bl_extract, show i + 1 - i = 1 by omega, hd]
        rfl
      rw [hsg] at ht
      have hl : (bl (txt (A ++ [x]))).length = (txt A).size + 1 := by
        rw [ht, List.length_append, List.length_append, List.length_take, List.length_drop, bl_len]
        show min i _ + 1 + _ = _
        omega
      rw [bl_len] at hl
      obtain ⟨o2, ⟨C, rfl, hC⟩, ht2⟩ := ih (i + 1) (A ++ [x]) B o1 (by omega) (by omega) hs
      refine ⟨o2, ⟨x :: C, by simp, by simp [hC]⟩, ?_⟩
      have hlen : ((bl (txt A)).take i ++ [(bl t)[i]]).length = i + 1 := by
        rw [List.length_append, List.length_take, bl_len]
        show min i _ + 1 = _
        omega
      have e1 : ((bl (txt A)).take i ++ [(bl t)[i]] ++ (bl (txt A)).drop i).take (i + 1) = (bl (txt A)).take i ++ [(bl t)[i]] := by
        rw [List.take_append_of_le_length (by rw [hlen]; exact Nat.le_refl _)]
        exact List.take_of_length_le (by rw [hlen]; exact Nat.le_refl _)
      have e2 : ((bl (txt A)).take i ++ [(bl t)[i]] ++ (bl (txt A)).drop i).drop (i + 1) = (bl (txt A)).drop i := by
        rw [List.drop_append_of_le_length (by rw [hlen]; exact Nat.le_refl _), List.drop_of_length_le (l := (bl (txt A)).take i ++ [(bl t)[i]]) (by rw [hlen]; exact Nat.le_refl _)]
        rfl
      rw [ht2, ht, e1, e2, hd, List.take_succ_cons]
      simp
theorem cbF_same {s t : ByteArray} : ∀ (f k : Nat), (bl s).take k = (bl t).take k → (bl s).take (cbF s t f k) = (bl t).take (cbF s t f k) := by
  intro f
  induction f with
  | zero => intro k h; exact h
  | succ f ih =>
    intro k h
    show (bl s).take (if _ then _ else _) = (bl t).take (if _ then _ else _)
    by_cases hc : k < s.size ∧ k < t.size ∧ bt s k = bt t k
    · rw [if_pos hc]
      refine ih (k + 1) ?_
      rw [List.take_add_one, List.take_add_one, h, bl_at hc.1 hc.2.1 hc.2.2]
    · rw [if_neg hc]
      exact h
theorem drop_step {L : List UInt8} {n k : Nat} (hn : L.length = n) (hk : k < n) : L.drop (n - (k + 1)) = L[n - 1 - k]?.toList ++ L.drop (n - k) := by
  have h : n - (k + 1) < L.length := by omega
  rw [List.drop_eq_getElem_cons h, show n - 1 - k = n - (k + 1) by omega, List.getElem?_eq_getElem h, show n - (k + 1) + 1 = n - k by omega]
  rfl
theorem ceF_same {s t : ByteArray} {b : Nat} : ∀ (f k : Nat), (bl s).drop (s.size - k) = (bl t).drop (t.size - k) → (bl s).drop (s.size - ceF s t b f k) = (bl t).drop (t.size - ceF s t b f k) := by
  intro f
  induction f with
  | zero => intro k h; exact h
  | succ f ih =>
    intro k h
    show (bl s).drop (s.size - (if _ then _ else _)) = (bl t).drop (t.size - (if _ then _ else _))
    by_cases hc : k < s.size - b ∧ k < t.size - b ∧ bt s (s.size - 1 - k) = bt t (t.size - 1 - k)
    · rw [if_pos hc]
      refine ih (k + 1) ?_
      rw [drop_step (bl_len s) (by omega), drop_step (bl_len t) (by omega), h, bl_at (by omega) (by omega) hc.2.2]
    · rw [if_neg hc]
      exact h
theorem cbF_self {s : ByteArray} : ∀ (f k : Nat), f + k = s.size → cbF s s f k = s.size := by
  intro f
  induction f with
  | zero => intro k h; show k = _; omega
  | succ f ih =>
    intro k h
    show (if _ then _ else _) = _
    rw [if_pos ⟨by omega, by omega, rfl⟩]
    exact ih (k + 1) (by omega)
theorem tu_text {A B : List Ev} {author : Int} {t : ByteArray} (h : tuR (gD A) A.length author t = some B) :
    okA B ∧ txt B = t ∧ (∃ C, B = A ++ C) ∧ (txt A = t → B = A) := by
  cases hG : tuG (gD A) A.length author t with
  | false => rw [tuR_no hG] at h; cases h
  | true =>
    rw [tuR_yes hG, listD_gD] at h
    have hok : okA A := by
      unfold tuG at hG
      simp only [Bool.and_eq_true] at hG
      exact hG.1.1
    change itW author t (tuM (txt A) t) (cb (txt A) t) (itD author (cb (txt A) t) (tuN (txt A) t) A) = some B at h
    have hb := cb_le (txt A) t
    have he := ce_le (txt A) t (cb (txt A) t)
    have h1 : (bl (txt A)).take (cb (txt A) t) = (bl t).take (cb (txt A) t) := cbF_same _ 0 rfl
    have h2 : (bl (txt A)).drop ((txt A).size - ce (txt A) t (cb (txt A) t)) = (bl t).drop (t.size - ce (txt A) t (cb (txt A) t)) := by
      refine ceF_same _ 0 ?_
      rw [Nat.sub_zero, Nat.sub_zero, List.drop_of_length_le (by rw [bl_len]; exact Nat.le_refl _), List.drop_of_length_le (by rw [bl_len]; exact Nat.le_refl _)]
    have hself : txt A = t → cb (txt A) t = (txt A).size ∧ (txt A).size = t.size := fun e => by
      subst e
      exact ⟨cbF_self _ 0 rfl, rfl⟩
    obtain ⟨n, hn⟩ : ∃ n, n = tuN (txt A) t := ⟨_, rfl⟩
    obtain ⟨m, hm⟩ : ∃ m, m = tuM (txt A) t := ⟨_, rfl⟩
    rw [← hn, ← hm] at h
    unfold tuN at hn
    unfold tuM at hm
    generalize hbb : cb (txt A) t = b at *
    generalize hee : ce (txt A) t b = e at *
    cases hD : itD author (b : Int) n A with
    | none =>
      rw [hD] at h
      cases h
    | some B1 =>
      rw [hD] at h
      obtain ⟨o1, ⟨C1, rfl, hC1⟩, ht1⟩ := itD_text n A B1 hok (by omega) hD
      have hl1 : (txt (A ++ C1)).size = b + e := by
        rw [← bl_len, ht1, List.length_append, List.length_take, List.length_drop, bl_len]
        omega
      obtain ⟨o2, ⟨C2, rfl, hC2⟩, ht2⟩ := itI_text m b (A ++ C1) B o1 (by omega) (by omega) h
      refine ⟨o2, bl_inj ?_, ⟨C1 ++ C2, by simp⟩, fun ee => ?_⟩
      · have hd := cut_drop (M := (bl (txt A)).drop (b + n)) (k := 0) (show b ≤ (bl (txt A)).length by rw [bl_len]; omega)
        rw [Nat.add_zero, List.drop_zero] at hd
        rw [ht2, ht1, cut_take (by rw [bl_len]; omega), hd, h1, show b + n = (txt A).size - e by omega, h2, show t.size - e = b + m by omega, ← List.drop_drop, List.append_assoc, List.take_append_drop, List.take_append_drop]
      · obtain ⟨q1, q2⟩ := hself ee
        have z1 : C1 = [] := List.eq_nil_of_length_eq_zero (by omega)
        have z2 : C2 = [] := List.eq_nil_of_length_eq_zero (by omega)
        rw [z1, z2, List.append_nil, List.append_nil]
theorem itD_good {author : Int} {b : Int} : ∀ (k : Nat) (A B : List Ev), Good A → itD author b k A = some B → Good B := by
  intro k
  induction k with
  | zero => intro A B h hs; obtain rfl := Option.some.inj (show some A = some B from hs); exact h
  | succ k ih =>
    intro A B h hs
    cases h1 : stD author b A with
    | none => rw [itD_no h1] at hs; cases hs
    | some B1 =>
      rw [itD_yes h1] at hs
      exact ih B1 B (stD_some h h1).1 hs
theorem itI_good {author : Int} {t : ByteArray} (ht : t.size ≤ 100) : ∀ (k i : Nat) (A B : List Ev), Good A → itI author t k i A = some B → Good B := by
  intro k
  induction k with
  | zero => intro i A B h hs; obtain rfl := Option.some.inj (show some A = some B from hs); exact h
  | succ k ih =>
    intro i A B h hs
    cases h1 : stI author i (t.extract i (i + 1)) A with
    | none => rw [itI_no h1] at hs; cases hs
    | some B1 =>
      rw [itI_yes h1] at hs
      exact ih (i + 1) B1 B (stI_some (by rw [ByteArray.size_extract]; omega) h h1).1 hs
theorem tu_good {A B : List Ev} {author : Int} {t : ByteArray} (hA : Good A) (ht : t.size ≤ 100) (h : tuR (gD A) A.length author t = some B) : Good B := by
  cases hG : tuG (gD A) A.length author t with
  | false => rw [tuR_no hG] at h; cases h
  | true =>
    rw [tuR_yes hG, listD_gD] at h
    cases hD : itD author (cb (textR (gD A) A.length) t) (tuN (textR (gD A) A.length) t) A with
    | none => rw [hD] at h; cases h
    | some B1 =>
      rw [hD] at h
      exact itI_good ht _ _ B1 B (itD_good _ A B1 hA hD) h
end Go.Proofs.Ytjfciokpnhnhbaa

namespace Go.Proofs.Ytjfciokpnhnhbaa
open Go.RowKit
set_option linter.unusedVariables false

/-- what is shown of a sequence -/
def idA (A : List Ev) : List Int := idsR (gD A) A.length
theorem okS_same {D D' : Nat → Ev} {n i : Nat} (h : ∀ j, j < n → D' j = D j) (hi : i < n) : okS D' i = okS D i := by
  have e1 := h i hi
  have e2 : i = 0 ∨ D' (i - 1) = D (i - 1) := by
    rcases Nat.eq_zero_or_pos i with h0 | h0
    · exact .inl h0
    · exact .inr (h (i - 1) (by omega))
  have e3 : ∀ z, insB D' i z = insB D i z := fun z => insB_same (fun j hj => h j (by omega)) z
  unfold okS kindB
  rw [e1, e3]
  rcases e2 with rfl | e2
  · rfl
  · rw [e2]
theorem last_snoc (A : List Ev) (x : Ev) : lastA (gD (A ++ [x])) (A ++ [x]).length = x.a := by
  rw [gD_snoc, List.length_append]
  show lastA (snocD (gD A) A.length x) (A.length + 1) = x.a
  unfold lastA
  rw [if_neg (by omega), Nat.add_sub_cancel, snoc_last]
theorem snoc_ok {A : List Ev} {x : Ev} (h : okA A) (hl : A.length < 40) (hb : x.b = 1) (hd : sgB x.d = true) (ha : lastA (gD A) A.length < x.a) (ha2 : x.a ≤ 1000000) (hc : x.c = 0 ∨ insB (gD A) A.length x.c = true) : okA (A ++ [x]) := by
  have hok := (seqB_parts h).2
  have hall : allB (okS (snocD (gD A) A.length x)) A.length = true := by
    unfold allB at hok ⊢
    rw [List.all_eq_true] at hok ⊢
    intro i hi
    rw [okS_same (fun j hj => snoc_at hj) (List.mem_range.1 hi)]
    exact hok i hi
  unfold okA
  rw [gD_snoc, List.length_append]
  show seqB (snocD (gD A) A.length x) (A.length + 1) = true
  have hlast : lastA (snocD (gD A) A.length x) A.length = lastA (gD A) A.length := by
    unfold lastA
    by_cases h0 : A.length = 0
    · rw [if_pos h0, if_pos h0]
    · rw [if_neg h0, if_neg h0, snoc_at (by omega)]
  have hk : okS (snocD (gD A) A.length x) A.length = true := by
    rw [ok_of (by rw [hlast, snoc_last]; exact ha) (by rw [snoc_last]; exact ha2) hall, kind_ins (by rw [snoc_last]; exact hb), snoc_last]
    · exact hd
    · rw [snoc_last]
      rcases hc with h0 | h0
      · exact .inl h0
      · exact .inr (by rw [insB_same (fun j hj => snoc_at hj)]; exact h0)
  unfold seqB
  rw [allB_succ, hall, hk, decide_eq_true (by omega)]
  rfl
theorem ids_snoc {A : List Ev} {x : Ev} (h : okA A) (h' : okA (A ++ [x])) (hb : x.b = 1) {z : Nat} (hz : z ≤ (idA A).length) (hc : x.c = aft (idA A) (z : Int)) : idA (A ++ [x]) = (idA A).take z ++ [x.a] ++ (idA A).drop z := by
  unfold okA at h'
  unfold idA
  rw [gD_snoc, List.length_append] at h' ⊢
  exact ids_ins h h' hb hz hc
theorem aft_in {A : List Ev} (h : okA A) {z : Int} (h0 : 0 ≤ z) (h1 : z ≤ (idA A).length) : aft (idA A) z = 0 ∨ insB (gD A) A.length (aft (idA A) z) = true := by
  unfold aft
  split
  · refine .inr (idsR_ins ?_).1
    have : (z - 1).toNat < (idsR (gD A) A.length).length := by unfold idA at h1; omega
    show (idsR (gD A) A.length).getD (z - 1).toNat 0 ∈ _
    rw [List.getD_eq_getElem?_getD, List.getElem?_eq_getElem this]
    simp
  · exact .inl rfl
theorem okI_yes {A : List Ev} {author z : Int} {sg : ByteArray} (h : okA A) (hl : A.length < 40) (hlast : lastA (gD A) A.length ≤ 900000) (hau : inB 1 9 author = true) (hsg : sgB sg = true) (h0 : 0 ≤ z) (h1 : z ≤ (idA A).length) : okI (gD A) A.length author z sg = true := by
  have hla := last_in h
  have hau' := hau
  unfold inB at hau'
  simp only [Bool.and_eq_true, decide_eq_true_eq] at hau'
  have hs := snoc_ok (x := opI (gD A) A.length author z sg) h hl rfl hsg (by show _ < nid _ _ _; unfold nid; omega) (by show nid _ _ _ ≤ _; unfold nid; omega) (aft_in h h0 h1)
  unfold okA at hs
  rw [gD_snoc, List.length_append] at hs
  unfold okI okW
  have h1' : z ≤ ((idsR (gD A) A.length).length : Int) := h1
  rw [inB_yes h0 h1', hau, show seqB (gD A) A.length = true from h]
  exact hs
section
variable {A : List Ev} {z : Nat} {X Y P Q : Ev}
/-- the ops of both behind A, by rising Id -/
structure Four (A : List Ev) (z : Nat) (X Y P Q : Ev) : Prop where
  ok : okA A
  len : A.length ≤ 20
  zl : z ≤ (idA A).length
  kX : X.b = 1
  kY : Y.b = 1
  kP : P.b = 1
  kQ : Q.b = 1
  sX : sgB X.d = true
  sY : sgB Y.d = true
  sP : sgB P.d = true
  sQ : sgB Q.d = true
  aX : lastA (gD A) A.length < X.a
  aP : X.a < P.a
  aY : P.a < Y.a
  aQ : Y.a < Q.a
  top : Q.a ≤ 1000000
  cX : X.c = aft (idA A) (z : Int)
  cP : P.c = aft (idA A) (z : Int)
  cY : Y.c = X.a
  cQ : Q.c = P.a
theorem ins_snoc {A : List Ev} {x : Ev} {y : Int} (h : insB (gD A) A.length y = true ∨ (x.b = 1 ∧ x.a = y)) : insB (gD (A ++ [x])) (A ++ [x]).length y = true := by
  rw [gD_snoc, List.length_append]
  show insB (snocD (gD A) A.length x) (A.length + 1) y = true
  rw [insB_succ, insB_same (fun j hj => snoc_at hj), snoc_last]
  rcases h with h | ⟨h1, h2⟩
  · rw [h]; rfl
  · rw [h1, h2]; simp
theorem aft_ext {L M : List Int} {z : Nat} (hz : z ≤ L.length) : aft (L.take z ++ M) (z : Int) = aft L (z : Int) := by
  unfold aft
  by_cases h0 : (0 : Int) < (z : Int)
  · rw [if_pos h0, if_pos h0]
    have h1 : ((z : Int) - 1).toNat < z := by omega
    rw [List.getD_eq_getElem?_getD, List.getD_eq_getElem?_getD, List.getElem?_append_left (by rw [List.length_take]; omega), List.getElem?_take_of_lt h1]
  · rw [if_neg h0, if_neg h0]
theorem aft_at {L M : List Int} {z : Nat} {y : Int} (hz : z ≤ L.length) : aft (L.take z ++ (y :: M)) ((z + 1 : Nat) : Int) = y := by
  unfold aft
  rw [if_pos (by omega), show (((z + 1 : Nat) : Int) - 1).toNat = z by omega, List.getD_eq_getElem?_getD, List.getElem?_append_right (by rw [List.length_take]; omega), List.length_take, Nat.min_eq_left hz, Nat.sub_self]
  rfl
theorem aft_at2 {L M : List Int} {z : Nat} {x y : Int} (hz : z ≤ L.length) : aft (L.take z ++ (x :: y :: M)) ((z + 2 : Nat) : Int) = y := by
  unfold aft
  rw [if_pos (by omega), show (((z + 2 : Nat) : Int) - 1).toNat = z + 1 by omega, List.getD_eq_getElem?_getD, List.getElem?_append_right (by rw [List.length_take]; omega), List.length_take, Nat.min_eq_left hz, show z + 1 - z = 1 by omega]
  rfl
theorem cut_take' {L M : List Int} {z k : Nat} (hz : z ≤ L.length) : (L.take z ++ M).take (z + k) = L.take z ++ M.take k := by
  rw [List.take_append, List.length_take, Nat.min_eq_left hz, show z + k - z = k by omega, List.take_of_length_le (by rw [List.length_take]; omega)]
theorem cut_drop' {L M : List Int} {z k : Nat} (hz : z ≤ L.length) : (L.take z ++ M).drop (z + k) = M.drop k := by
  rw [List.drop_append, List.length_take, Nat.min_eq_left hz, show z + k - z = k by omega, List.drop_of_length_le (by rw [List.length_take]; omega), List.nil_append]
theorem Four.ids (h : Four A z X Y P Q) : okA (A ++ [X] ++ [P] ++ [Y] ++ [Q]) ∧ idA (A ++ [X] ++ [P] ++ [Y] ++ [Q]) = (idA A).take z ++ (P.a :: Q.a :: X.a :: Y.a :: (idA A).drop z) := by
  have hz := h.zl
  have hl := h.len
  have t1 := h.aP
  have t2 := h.aY
  have t3 := h.aQ
  have t4 := h.top
  have o1 : okA (A ++ [X]) := snoc_ok h.ok (by omega) h.kX h.sX h.aX (by omega) (by rw [h.cX]; exact aft_in h.ok (by omega) (by omega))
  have i1 : idA (A ++ [X]) = (idA A).take z ++ (X.a :: (idA A).drop z) := by
    rw [ids_snoc h.ok o1 h.kX hz h.cX, List.append_assoc]
    rfl
  have hinA : aft (idA A) (z : Int) = 0 ∨ insB (gD A) A.length (aft (idA A) (z : Int)) = true := aft_in h.ok (by omega) (by omega)
  have o2 : okA (A ++ [X] ++ [P]) := snoc_ok o1 (by simp; omega) h.kP h.sP (by rw [last_snoc]; exact h.aP) (by omega) (by rw [h.cP]; exact hinA.imp id (fun q => ins_snoc (.inl q)))
  have i2 : idA (A ++ [X] ++ [P]) = (idA A).take z ++ (P.a :: X.a :: (idA A).drop z) := by
    have hz1 : z ≤ (idA (A ++ [X])).length := by rw [i1, List.length_append, List.length_take]; omega
    rw [ids_snoc o1 o2 h.kP hz1 (by rw [h.cP, i1, aft_ext hz]), i1]
    have e1 := cut_take' (M := X.a :: (idA A).drop z) (k := 0) hz
    have e2 := cut_drop' (M := X.a :: (idA A).drop z) (k := 0) hz
    rw [Nat.add_zero] at e1 e2
    rw [e1, e2]
    simp
  have o3 : okA (A ++ [X] ++ [P] ++ [Y]) := snoc_ok o2 (by simp; omega) h.kY h.sY (by rw [last_snoc]; exact h.aY) (by omega) (.inr (by rw [h.cY]; exact ins_snoc (.inl (ins_snoc (.inr ⟨h.kX, rfl⟩)))))
  have i3 : idA (A ++ [X] ++ [P] ++ [Y]) = (idA A).take z ++ (P.a :: X.a :: Y.a :: (idA A).drop z) := by
    have hz1 : z + 2 ≤ (idA (A ++ [X] ++ [P])).length := by rw [i2, List.length_append, List.length_take, List.length_cons, List.length_cons]; omega
    rw [ids_snoc o2 o3 h.kY hz1 (by rw [h.cY, i2, aft_at2 hz]), i2, cut_take' hz, cut_drop' hz]
    simp
  have o4 : okA (A ++ [X] ++ [P] ++ [Y] ++ [Q]) := snoc_ok o3 (by simp; omega) h.kQ h.sQ (by rw [last_snoc]; exact h.aQ) h.top (.inr (by rw [h.cQ]; exact ins_snoc (.inl (ins_snoc (.inr ⟨h.kP, rfl⟩)))))
  refine ⟨o4, ?_⟩
  have hz1 : z + 1 ≤ (idA (A ++ [X] ++ [P] ++ [Y])).length := by rw [i3, List.length_append, List.length_take, List.length_cons]; omega
  rw [ids_snoc o3 o4 h.kQ hz1 (by rw [h.cQ, i3, aft_at hz]), i3, cut_take' hz, cut_drop' hz]
  simp
theorem Four.a (h : Four A z X Y P Q) : okA (A ++ [X] ++ [Y]) := by
  have hl := h.len
  have t1 := h.aP
  have t2 := h.aY
  have t3 := h.aQ
  have t4 := h.top
  have o1 : okA (A ++ [X]) := snoc_ok h.ok (by omega) h.kX h.sX h.aX (by omega) (by rw [h.cX]; exact aft_in h.ok (by omega) (by have := h.zl; omega))
  exact snoc_ok o1 (by simp; omega) h.kY h.sY (by rw [last_snoc]; omega) (by omega) (.inr (by rw [h.cY]; exact ins_snoc (.inr ⟨h.kX, rfl⟩)))
theorem Four.b (h : Four A z X Y P Q) : okA (A ++ [P] ++ [Q]) := by
  have hl := h.len
  have t1 := h.aP
  have t2 := h.aY
  have t3 := h.aQ
  have t4 := h.top
  have t5 := h.aX
  have o1 : okA (A ++ [P]) := snoc_ok h.ok (by omega) h.kP h.sP (by omega) (by omega) (by rw [h.cP]; exact aft_in h.ok (by omega) (by have := h.zl; omega))
  exact snoc_ok o1 (by simp; omega) h.kQ h.sQ (by rw [last_snoc]; omega) (by omega) (.inr (by rw [h.cQ]; exact ins_snoc (.inr ⟨h.kP, rfl⟩)))
theorem Four.merged (h : Four A z X Y P Q) : mergedB (A ++ [X] ++ [Y]) (A ++ [P] ++ [Q]) = true ∧ mergeS (A ++ [X] ++ [Y]) (A ++ [P] ++ [Q]) = A ++ [X] ++ [P] ++ [Y] ++ [Q] := by
  have ha : seqL (A ++ [X] ++ [Y]) = true := h.a
  have hb : seqL (A ++ [P] ++ [Q]) = true := h.b
  have hm : seqL (A ++ [X] ++ [P] ++ [Y] ++ [Q]) = true := h.ids.1
  have hag : Agr ((A ++ [X] ++ [Y]) ++ (A ++ [P] ++ [Q])) := (seqL_up hm).agr.sub (fun x hx => by
    simp only [List.mem_append, List.mem_singleton] at hx ⊢
    rcases hx with ((q | q) | q) | ((q | q) | q) <;> simp [q])
  have e : mergeS (A ++ [X] ++ [Y]) (A ++ [P] ++ [Q]) = A ++ [X] ++ [P] ++ [Y] ++ [Q] := upS_unique (mergeS_up _ (seqL_up ha) _) (seqL_up hm) (fun x => by
    rw [mergeS_iff x _ _ hag]
    simp only [List.mem_append, List.mem_singleton]
    constructor
    · rintro (((q | q) | q) | ((q | q) | q)) <;> simp [q]
    · rintro ((((q | q) | q) | q) | q) <;> simp [q])
  exact ⟨mergedB_iff.2 ⟨ha, hb, hag, by rw [e]; exact hm⟩, e⟩
end
end Go.Proofs.Ytjfciokpnhnhbaa

namespace Go.Proofs.Ytjfciokpnhnhbaa
open Go.RowKit
set_option linter.unusedVariables false

/-- few ops of small Ids, k more to come -/
def SmK (k : Nat) (A : List Ev) : Prop := A.length + k ≤ 10 ∧ 0 ≤ lastA (gD A) A.length ∧ lastA (gD A) A.length ≤ 10 * A.length + 9
theorem SmK.start {n : Nat} (h : n ≤ 10) : SmK n [] := ⟨by simpa using h, by decide, by decide⟩
theorem SmK.less {k : Nat} {A : List Ev} (h : SmK (k + 1) A) : SmK k A := ⟨by have := h.1; omega, h.2.1, h.2.2⟩
theorem SmK.zero {k : Nat} {A : List Ev} (h : SmK k A) : SmK 0 A := ⟨by have := h.1; omega, h.2.1, h.2.2⟩
theorem SmK.more {k : Nat} {A : List Ev} {author : Int} {x : Ev} (h : SmK (k + 1) A) (h0 : 0 ≤ author) (h9 : author ≤ 9) (hx : x.a = nid (gD A) A.length author) : SmK k (A ++ [x]) := by
  obtain ⟨h1, h2, h3⟩ := h
  refine ⟨by rw [List.length_append]; show A.length + 1 + k ≤ 10; omega, ?_, ?_⟩
  · rw [last_snoc, hx]
    unfold nid
    omega
  · rw [last_snoc, hx, List.length_append]
    show _ ≤ 10 * ((A.length + 1 : Nat) : Int) + 9
    unfold nid
    omega

section
variable {W : World} {a : Option Addr} {len cap R : Nat} {Z : Nat → Int}

set_option maxRecDepth 10000 in
set_option maxHeartbeats 8000000 in
theorem seqb_any (hU : IsU8 W a len cap Z) (w : World) (h : Draw W a len cap R w) :
    Calls Try.prog 21 #[.pointer (some ⟨R, 0, none⟩), .int .i64 10] w fun e w' => ∃ v A, e = .returned v ∧ OwnV w' w.heap.size v A ∧ Good A ∧ seqB (gD A) A.length = true ∧ Draw W a len cap R w' ∧ Mut R w w' ∧ SmK 0 A := by
  have HRW : Hid (R < w.heap.size) := h.lt
  have HD0 : Hid (Draw W a len cap R w) := h
  clear h
  go_enter Try.func21, Try.ntmps21
  go_wp2_with fail
  refine (below_any hU 11 (by omega) (by omega) _ (HD0.out.alloc _)).mono ?_
  rintro e w1 ⟨y, hy0, hy1, rfl, hD1, hM1⟩
  obtain ⟨n, rfl⟩ : ∃ n : Nat, y = (n : Int) := ⟨y.toNat, by omega⟩
  have hn : n ≤ 10 := by omega
  have HS1 : Hid (OwnV w1 w.heap.size (.slice (some ⟨w.heap.size, 0, none⟩) 0 0) [] ∧ Draw W a len cap R w1 ∧ Mut R w w1) := by
    refine ⟨OwnV.mut (R := R) (w := w.alloc (.cells #[] 36)) ⟨rfl, .inr ⟨w.heap.size, 0, #[], rfl, Nat.le_refl _, heap_alloc_new _ _, Nat.le_refl _, Nat.zero_le _, rfl, rfl⟩⟩ hM1 HRW.out, hD1, ((Mut.refl R w).alloc _).trans hM1⟩
  have HG0 : Hid (Good ([] : List Ev) ∧ seqB (gD []) ([] : List Ev).length = true) := ⟨⟨Nat.zero_le _, fun i hi => absurd hi (Nat.not_lt_zero _)⟩, rfl⟩
  clear hD1 hM1 hy0 hy1
  go_wp2
  go_loopw [5, 6] (fun v i wr => ∃ (k : Nat) (A : List Ev) (v' : Value), k ≤ 10 ∧ i = .int .i64 k ∧ v' = v ∧ Hid (SmK k A) ∧ Hid (OwnV wr w.heap.size v' A ∧ Good A ∧ seqB (gD A) A.length = true ∧ Draw W a len cap R wr ∧ Mut R w wr)) (fun _ i _ => (Go.RowKit.intOf i).toNat)
  case atStart => exact ⟨n, [], _, hn, rfl, rfl, SmK.start hn, HS1.out.1, HG0.out.1, HG0.out.2, HS1.out.2.1, HS1.out.2.2⟩
  case round =>
    obtain ⟨k1, A, v, hk, rfl, rfl, HSM, HI⟩ := hrel
    clear HS1 HG0
    by_cases hlt : 0 < k1
    · obtain ⟨k, rfl⟩ : ∃ k, k1 = k + 1 := ⟨k1 - 1, by omega⟩
      obtain ⟨va, vc, hv, hE⟩ := HI.out.1.evs
      have HIS : Hid (∀ w', OwnV w' w.heap.size (.slice va A.length vc) A → IsEvs w' va A.length vc (gD A)) := fun w' ho => by
        obtain ⟨va', vc', e, hE'⟩ := ho.evs
        simp only [Value.slice.injEq, true_and] at e
        obtain ⟨rfl, rfl⟩ := e
        exact hE'
      subst hv
      have HIE0 : Hid (IsEvs wr va A.length vc (gD A)) := hE
      clear hE
      go_wp2_with fail
      refine (l10Ids_any va A.length vc (gD A) wr HIE0.out HI.out.2.2.1).mono ?_
      rintro e w2 ⟨vi, rfl, hO2, hB2⟩
      obtain ⟨L, hL⟩ : ∃ L, L = idsL (gD A) A.length := ⟨_, rfl⟩
      have hL40 : L.length ≤ 40 := by rw [hL, ← idsR_yes HI.out.2.2.1]; exact idsR_len _ _
      rw [← hL] at hO2
      obtain ⟨vb, vd, rfl⟩ := hO2.slice
      obtain ⟨m, hm⟩ : ∃ m, m = L.length := ⟨_, rfl⟩
      rw [← hm] at hL40 ⊢
      have HX2 : Hid (OwnV w2 w.heap.size (.slice va A.length vc) A ∧ Draw W a len cap R w2 ∧ Mut R w w2) := ⟨HI.out.1.below hB2, HI.out.2.2.2.1.below hB2, HI.out.2.2.2.2.trans (Mut.of_below hB2)⟩
      have HGG : Hid (Good A ∧ seqB (gD A) A.length = true) := ⟨HI.out.2.1, HI.out.2.2.1⟩
      clear hO2 hB2 hL hm HI HIE0
      go_wp2_with fail
      refine (below_any hU 3 (by omega) (by omega) w2 HX2.out.2.1).mono ?_
      rintro e w3 ⟨y3, h30, h31, rfl, hD3, hM3⟩
      have HX3 : Hid (OwnV w3 w.heap.size (.slice va A.length vc) A ∧ Draw W a len cap R w3 ∧ Mut R w w3) := ⟨HX2.out.1.mut hM3 HRW.out, hD3, HX2.out.2.2.trans hM3⟩
      clear hD3 hM3 HX2
      obtain ⟨author, hau⟩ : ∃ author : Int, 1 + y3 = author := ⟨_, rfl⟩
      have HAU : Hid (0 ≤ author ∧ author ≤ 9) := ⟨by omega, by omega⟩
      by_cases hm0 : 1 ≤ m
      · have hm0I : (0 : Int) < (m : Int) := by omega
        go_wp2_with fail
        refine (once_any hU 4 (by omega) (by omega) w3 HX3.out.2.1).mono ?_
        rintro e w4 ⟨on, rfl, hD4, hM4⟩
        have HOV : Hid (OwnV w4 w.heap.size (.slice va A.length vc) A ∧ Good A ∧ seqB (gD A) A.length = true) := ⟨HX3.out.1.mut hM4 HRW.out, HGG.out⟩
        have HDW : Hid (Draw W a len cap R w4 ∧ Mut R w w4) := ⟨hD4, HX3.out.2.2.trans hM4⟩
        clear hD4 hM4 HX3 HGG
        cases on with
        | true =>
          go_wp2_with fail
          refine (belowN_any hU m hm0 (by omega) w4 HDW.out.1).mono ?_
          rintro e w5 ⟨z, hz, rfl, hD5, hM5⟩
          have HOV5 : Hid (OwnV w5 w.heap.size (.slice va A.length vc) A ∧ Good A ∧ seqB (gD A) A.length = true) := ⟨HOV.out.1.mut hM5 HRW.out, HOV.out.2⟩
          have HDW5 : Hid (Draw W a len cap R w5 ∧ Mut R w w5) := ⟨hD5, HDW.out.2.trans hM5⟩
          clear HOV HDW hD5 hM5
          have HOV := HOV5
          have HDW := HDW5
          clear HOV5 HDW5
          have HIE : Hid (IsEvs w5 va A.length vc (gD A)) := HIS.out w5 HOV.out.1
          go_wp2_with fail
          refine (specDeleted_any va A.length vc (gD A) author (z : Int) w5 HIE.out HOV.out.2.1.2).mono ?_

          rintro e w6 ⟨v6, rfl, hO6, hB6⟩
          obtain ⟨x6, hx6⟩ : ∃ x6 : Value, x6 = .agg (enc4 (if okD (gD A) A.length author (z : Int) then opD (gD A) A.length author (z : Int) else evZ)).toArray := ⟨_, rfl⟩
          rw [← hx6]
          clear hx6
          obtain ⟨s, hs⟩ : ∃ s, s = okD (gD A) A.length author (z : Int) := ⟨_, rfl⟩
          rw [← hs] at hO6 ⊢
          have HD6 : Hid (Draw W a len cap R w6 ∧ Mut R w w6) := ⟨HDW.out.1.below hB6, HDW.out.2.trans (Mut.of_below hB6)⟩
          cases s with
          | false =>
            have HR : Hid (OwnV w6 w.heap.size (.slice va A.length vc) A ∧ Good A ∧ seqB (gD A) A.length = true ∧ Draw W a len cap R w6 ∧ Mut R w w6) := ⟨HOV.out.1.below hB6, HOV.out.2.1, HOV.out.2.2, HD6.out.1, HD6.out.2⟩
            clear hs hO6 hB6
            go_wp2
            go_roundw
            case rel => exact ⟨k, A, _, by omega, by go_num, rfl, HSM.out.less, HR.out⟩
            case measure => simp [Go.RowKit.intOf]
          | true =>
            obtain ⟨B, hB⟩ : ∃ B, B = A ++ [opD (gD A) A.length author (z : Int)] := ⟨_, rfl⟩
            have hst := stD_ok hs.symm
            rw [← hB] at hst
            have HR : Hid (OwnV w6 w.heap.size v6 B ∧ Good B ∧ seqB (gD B) B.length = true ∧ Draw W a len cap R w6 ∧ Mut R w w6) := by
              refine ⟨?_, (stD_some HOV.out.2.1 hst).1, ?_, HD6.out.1, HD6.out.2⟩
              · have := hO6.base (HDW.out.2.size)
                rw [if_pos rfl, listD_gD, ← hB] at this
                exact this
              · have h1 := hs.symm
                unfold okD okW at h1
                simp only [Bool.and_eq_true] at h1
                have h2 := h1.2.2
                have e : snocD (gD A) A.length (opD (gD A) A.length author (z : Int)) = gD B := funext fun i => by unfold snocD; rw [listD_gD, hB]; rfl
                rw [e] at h2
                rw [hB, List.length_append, ← hB]
                exact h2
            have HSB : Hid (SmK k B) := by rw [hB]; exact HSM.out.more HAU.out.1 HAU.out.2 rfl
            clear hs hO6 hB6 hst hB
            go_wp2
            go_roundw
            case rel => exact ⟨k, B, _, by omega, by go_num, rfl, HSB.out, HR.out⟩
            case measure => simp [Go.RowKit.intOf]
        | false =>
          go_wp2_with fail
          refine (belowN_any hU (m + 1) (by omega) (by omega) w4 HDW.out.1).mono ?_
          rintro e w5' ⟨z, hz, rfl, hD5, hM5⟩
          have HL5 : Hid (R < w5'.heap.size) := hD5.lt
          have HOV5 : Hid (OwnV w5' w.heap.size (.slice va A.length vc) A) := HOV.out.1.mut hM5 HRW.out
          go_wp2_with fail
          refine (below_any hU 4 (by omega) (by omega) _ (hD5.alloc _)).mono ?_
          rintro e w5 ⟨y4, h40, h41, rfl, hD6, hM6⟩
          have hc := lit_cells hM6 HL5.out
          obtain ⟨i4, rfl⟩ : ∃ i : Nat, y4 = (i : Int) := ⟨y4.toNat, by omega⟩
          have hi4 : i4 < 4 := by omega
          have hi4I : (i4 : Int) < 4 := by omega
          obtain ⟨sg, hsg8, c4⟩ : ∃ sg : ByteArray, sg.size ≤ 8 ∧ w5.cell? ⟨w5'.heap.size, i4, none⟩ = some (.string sg) := by
            have : i4 = 0 ∨ i4 = 1 ∨ i4 = 2 ∨ i4 = 3 := by omega
            rcases this with rfl | rfl | rfl | rfl
            · exact ⟨_, by decide, hc 0⟩
            · exact ⟨_, by decide, hc 1⟩
            · exact ⟨_, by decide, hc 2⟩
            · exact ⟨_, by decide, hc 3⟩
          have hsg : sg.size ≤ 9223372036854775807 := by omega
          have hM56 : Mut R w5' w5 := ((Mut.refl R w5').alloc _).trans hM6
          have HOV6 : Hid (OwnV w5 w.heap.size (.slice va A.length vc) A ∧ Good A ∧ seqB (gD A) A.length = true) := ⟨HOV5.out.mut hM56 HRW.out, HOV.out.2⟩
          have HDW6 : Hid (Draw W a len cap R w5 ∧ Mut R w w5) := ⟨hD6, (HDW.out.2.trans hM5).trans hM56⟩
          clear HOV HDW hD5 hM5 hD6 hM6 hM56 hc h40 h41 HOV5
          have HOV := HOV6
          have HDW := HDW6
          clear HOV6 HDW6
          have HIE : Hid (IsEvs w5 va A.length vc (gD A)) := HIS.out w5 HOV.out.1
          go_wp2_with fail
          refine (specInserted_any va A.length vc (gD A) author (z : Int) sg hsg w5 HIE.out HOV.out.2.1.2).mono ?_

          rintro e w6 ⟨v6, rfl, hO6, hB6⟩
          obtain ⟨x6, hx6⟩ : ∃ x6 : Value, x6 = .agg (enc4 (if okI (gD A) A.length author (z : Int) sg then opI (gD A) A.length author (z : Int) sg else evZ)).toArray := ⟨_, rfl⟩
          rw [← hx6]
          clear hx6
          obtain ⟨s, hs⟩ : ∃ s, s = okI (gD A) A.length author (z : Int) sg := ⟨_, rfl⟩
          rw [← hs] at hO6 ⊢
          have HD6 : Hid (Draw W a len cap R w6 ∧ Mut R w w6) := ⟨HDW.out.1.below hB6, HDW.out.2.trans (Mut.of_below hB6)⟩
          cases s with
          | false =>
            have HR : Hid (OwnV w6 w.heap.size (.slice va A.length vc) A ∧ Good A ∧ seqB (gD A) A.length = true ∧ Draw W a len cap R w6 ∧ Mut R w w6) := ⟨HOV.out.1.below hB6, HOV.out.2.1, HOV.out.2.2, HD6.out.1, HD6.out.2⟩
            clear hs hO6 hB6
            go_wp2
            go_roundw
            case rel => exact ⟨k, A, _, by omega, by go_num, rfl, HSM.out.less, HR.out⟩
            case measure => simp [Go.RowKit.intOf]
          | true =>
            obtain ⟨B, hB⟩ : ∃ B, B = A ++ [opI (gD A) A.length author (z : Int) sg] := ⟨_, rfl⟩
            have hst := stI_ok hs.symm
            rw [← hB] at hst
            have HR : Hid (OwnV w6 w.heap.size v6 B ∧ Good B ∧ seqB (gD B) B.length = true ∧ Draw W a len cap R w6 ∧ Mut R w w6) := by
              refine ⟨?_, (stI_some hsg HOV.out.2.1 hst).1, ?_, HD6.out.1, HD6.out.2⟩
              · have := hO6.base (HDW.out.2.size)
                rw [if_pos rfl, listD_gD, ← hB] at this
                exact this
              · have h1 := hs.symm
                unfold okI okW at h1
                simp only [Bool.and_eq_true] at h1
                have h2 := h1.2.2
                have e : snocD (gD A) A.length (opI (gD A) A.length author (z : Int) sg) = gD B := funext fun i => by unfold snocD; rw [listD_gD, hB]; rfl
                rw [e] at h2
                rw [hB, List.length_append, ← hB]
                exact h2
            have HSB : Hid (SmK k B) := by rw [hB]; exact HSM.out.more HAU.out.1 HAU.out.2 rfl
            clear hs hO6 hB6 hst hB
            go_wp2
            go_roundw
            case rel => exact ⟨k, B, _, by omega, by go_num, rfl, HSB.out, HR.out⟩
            case measure => simp [Go.RowKit.intOf]
      · have hm0I : ¬ (0 : Int) < (m : Int) := by omega
        have hmz : m = 0 := by omega
        subst hmz
        have HOV : Hid (OwnV w3 w.heap.size (.slice va A.length vc) A ∧ Good A ∧ seqB (gD A) A.length = true) := ⟨HX3.out.1, HGG.out⟩
        have HDW : Hid (Draw W a len cap R w3 ∧ Mut R w w3) := ⟨HX3.out.2.1, HX3.out.2.2⟩
        clear HX3 HGG
        obtain ⟨w4, hw4⟩ : ∃ w4, w4 = w3 := ⟨_, rfl⟩
        rw [← hw4] at HOV HDW ⊢
        clear hw4
        go_wp2_with fail
        refine (belowN_any hU 1 (by omega) (by omega) w4 HDW.out.1).mono ?_
        rintro e w5' ⟨z, hz, rfl, hD5, hM5⟩
        have HL5 : Hid (R < w5'.heap.size) := hD5.lt
        have HOV5 : Hid (OwnV w5' w.heap.size (.slice va A.length vc) A) := HOV.out.1.mut hM5 HRW.out
        go_wp2_with fail
        refine (below_any hU 4 (by omega) (by omega) _ (hD5.alloc _)).mono ?_
        rintro e w5 ⟨y4, h40, h41, rfl, hD6, hM6⟩
        have hc := lit_cells hM6 HL5.out
        obtain ⟨i4, rfl⟩ : ∃ i : Nat, y4 = (i : Int) := ⟨y4.toNat, by omega⟩
        have hi4 : i4 < 4 := by omega
        have hi4I : (i4 : Int) < 4 := by omega
        obtain ⟨sg, hsg8, c4⟩ : ∃ sg : ByteArray, sg.size ≤ 8 ∧ w5.cell? ⟨w5'.heap.size, i4, none⟩ = some (.string sg) := by
          have : i4 = 0 ∨ i4 = 1 ∨ i4 = 2 ∨ i4 = 3 := by omega
          rcases this with rfl | rfl | rfl | rfl
          · exact ⟨_, by decide, hc 0⟩
          · exact ⟨_, by decide, hc 1⟩
          · exact ⟨_, by decide, hc 2⟩
          · exact ⟨_, by decide, hc 3⟩
        have hsg : sg.size ≤ 9223372036854775807 := by omega
        have hM56 : Mut R w5' w5 := ((Mut.refl R w5').alloc _).trans hM6
        have HOV6 : Hid (OwnV w5 w.heap.size (.slice va A.length vc) A ∧ Good A ∧ seqB (gD A) A.length = true) := ⟨HOV5.out.mut hM56 HRW.out, HOV.out.2⟩
        have HDW6 : Hid (Draw W a len cap R w5 ∧ Mut R w w5) := ⟨hD6, (HDW.out.2.trans hM5).trans hM56⟩
        clear HOV HDW hD5 hM5 hD6 hM6 hM56 hc h40 h41 HOV5
        have HOV := HOV6
        have HDW := HDW6
        clear HOV6 HDW6
        have HIE : Hid (IsEvs w5 va A.length vc (gD A)) := HIS.out w5 HOV.out.1
        go_wp2_with fail
        refine (specInserted_any va A.length vc (gD A) author (z : Int) sg hsg w5 HIE.out HOV.out.2.1.2).mono ?_

        rintro e w6 ⟨v6, rfl, hO6, hB6⟩
        obtain ⟨x6, hx6⟩ : ∃ x6 : Value, x6 = .agg (enc4 (if okI (gD A) A.length author (z : Int) sg then opI (gD A) A.length author (z : Int) sg else evZ)).toArray := ⟨_, rfl⟩
        rw [← hx6]
        clear hx6
        obtain ⟨s, hs⟩ : ∃ s, s = okI (gD A) A.length author (z : Int) sg := ⟨_, rfl⟩
        rw [← hs] at hO6 ⊢
        have HD6 : Hid (Draw W a len cap R w6 ∧ Mut R w w6) := ⟨HDW.out.1.below hB6, HDW.out.2.trans (Mut.of_below hB6)⟩
        cases s with
        | false =>
          have HR : Hid (OwnV w6 w.heap.size (.slice va A.length vc) A ∧ Good A ∧ seqB (gD A) A.length = true ∧ Draw W a len cap R w6 ∧ Mut R w w6) := ⟨HOV.out.1.below hB6, HOV.out.2.1, HOV.out.2.2, HD6.out.1, HD6.out.2⟩
          clear hs hO6 hB6
          go_wp2
          go_roundw
          case rel => exact ⟨k, A, _, by omega, by go_num, rfl, HSM.out.less, HR.out⟩
          case measure => simp [Go.RowKit.intOf]
        | true =>
          obtain ⟨B, hB⟩ : ∃ B, B = A ++ [opI (gD A) A.length author (z : Int) sg] := ⟨_, rfl⟩
          have hst := stI_ok hs.symm
          rw [← hB] at hst
          have HR : Hid (OwnV w6 w.heap.size v6 B ∧ Good B ∧ seqB (gD B) B.length = true ∧ Draw W a len cap R w6 ∧ Mut R w w6) := by
            refine ⟨?_, (stI_some hsg HOV.out.2.1 hst).1, ?_, HD6.out.1, HD6.out.2⟩
            · have := hO6.base (HDW.out.2.size)
              rw [if_pos rfl, listD_gD, ← hB] at this
              exact this
            · have h1 := hs.symm
              unfold okI okW at h1
              simp only [Bool.and_eq_true] at h1
              have h2 := h1.2.2
              have e : snocD (gD A) A.length (opI (gD A) A.length author (z : Int) sg) = gD B := funext fun i => by unfold snocD; rw [listD_gD, hB]; rfl
              rw [e] at h2
              rw [hB, List.length_append, ← hB]
              exact h2
          have HSB : Hid (SmK k B) := by rw [hB]; exact HSM.out.more HAU.out.1 HAU.out.2 rfl
          clear hs hO6 hB6 hst hB
          go_wp2
          go_roundw
          case rel => exact ⟨k, B, _, by omega, by go_num, rfl, HSB.out, HR.out⟩
          case measure => simp [Go.RowKit.intOf]
    · have hlt' : ¬ (0 : Int) < (k1 : Int) := by omega
      go_wp2
      go_ret
      exact ⟨_, rfl, A, HI.out.1, HI.out.2.1, HI.out.2.2.1, HI.out.2.2.2.1, HI.out.2.2.2.2, HSM.out.zero⟩
end
end Go.Proofs.Ytjfciokpnhnhbaa

namespace Go.Proofs.Ytjfciokpnhnhbaa
open Go.RowKit
set_option linter.unusedVariables false
set_option linter.unusedSimpArgs false

def dsJaz : List Nat := [14, 15, 16, 17, 18, 19, 20, 21, 22, 23, 2, 3, 4, 5]
def slotJaz (j : Nat) : Nat := dsJaz.getD j 0
theorem slotJaz_inj (i j : Nat) (hi : i < 14) (hj : j < 14) (q : slotJaz i = slotJaz j) : i = j := by
  have h : ∀ i : Fin 14, ∀ j : Fin 14, slotJaz i.val = slotJaz j.val → i.val = j.val := by decide
  exact h ⟨i, hi⟩ ⟨j, hj⟩ q
theorem slotJaz_mem (i : Nat) (hi : i < 14) : slotJaz i ∈ dsJaz := by
  have h : ∀ i : Fin 14, slotJaz i.val ∈ dsJaz := by decide
  exact h ⟨i, hi⟩
def dsJbz : List Nat := [24, 25, 26, 27, 28, 29, 30, 31, 32, 33, 34, 35, 36, 37, 38, 2, 3, 4, 5]
def slotJbz (j : Nat) : Nat := dsJbz.getD j 0
theorem slotJbz_inj (i j : Nat) (hi : i < 19) (hj : j < 19) (q : slotJbz i = slotJbz j) : i = j := by
  have h : ∀ i : Fin 19, ∀ j : Fin 19, slotJbz i.val = slotJbz j.val → i.val = j.val := by decide
  exact h ⟨i, hi⟩ ⟨j, hj⟩ q
theorem slotJbz_mem (i : Nat) (hi : i < 19) : slotJbz i ∈ dsJbz := by
  have h : ∀ i : Fin 19, slotJbz i.val ∈ dsJbz := by decide
  exact h ⟨i, hi⟩

set_option maxRecDepth 10000 in
set_option maxHeartbeats 4000000 in
theorem drawInsb_any {a : Option Addr} {len cap : Nat} {Z : Nat → Int} (W : World) (hU : IsU8 W a len cap Z) :
    Calls Try.prog 17 #[.slice a len cap] W fun e w' => ∃ v A author z, ∃ sg : ByteArray, e = .returned (.tuple #[v, .int .i64 author, .int .i64 z, .string sg]) ∧ sg.size ≤ 8 ∧ OwnV w' W.heap.size v A ∧ Good A ∧ Below W.heap.size W w' ∧ SmK 0 A ∧ seqB (gD A) A.length = true := by
  go_enter Try.func17, Try.ntmps17
  go_wp2_with fail
  refine (open_any a len cap W).mono ?_
  rintro e w1 ⟨rfl, hD1⟩
  go_wp2_with fail
  refine (seqb_any hU w1 hD1).mono ?_
  rintro e w2 ⟨v, A, rfl, hO2, hG, hs, hD2, hM2, hSM⟩
  have HSM : Hid (SmK 0 A ∧ seqB (gD A) A.length = true) := ⟨hSM, hs⟩
  clear hSM
  have HR : Hid (W.heap.size < w1.heap.size) := hD1.lt
  have HG : Hid (Good A ∧ seqB (gD A) A.length = true) := ⟨hG, hs⟩
  have HX2 : Hid (OwnV w2 w1.heap.size v A ∧ Draw W a len cap W.heap.size w2) := ⟨hO2, hD2⟩
  clear hD1 hO2 hG hs hD2 hM2
  go_wp2_with fail
  refine (once_any hU 8 (by omega) (by omega) w2 HX2.out.2).mono ?_
  rintro e w3 ⟨on, rfl, hD3, hM3⟩
  have HX3' : Hid (OwnV w3 w1.heap.size v A ∧ Draw W a len cap W.heap.size w3) := ⟨HX2.out.1.mut hM3 HR.out, hD3⟩
  clear hD3 hM3 HX2
  obtain ⟨va, vc, hv, _⟩ := HX3'.out.1.evs
  subst hv
  have HX3 := HX3'
  clear HX3'
  have HIS : Hid (∀ w', OwnV w' w1.heap.size (.slice va A.length vc) A → IsEvs w' va A.length vc (gD A)) := fun w' ho => by
    obtain ⟨va', vc', e, hE'⟩ := ho.evs
    simp only [Value.slice.injEq, true_and] at e
    obtain ⟨rfl, rfl⟩ := e
    exact hE'
  cases on with
  | true =>
    go_wp2
    refine wp_cut_to (fun a0 t w' => ∃ f, t = canon a0 dsJaz f ∧ f 2 = (.slice va A.length vc) ∧ (∃ z : Int, f 3 = .int .i64 z) ∧ (∃ z : Int, f 4 = .int .i64 z) ∧ (∃ sg : ByteArray, sg.size ≤ 8 ∧ f 5 = .string sg) ∧ Draw W a len cap W.heap.size w' ∧ OwnV w' w1.heap.size (.slice va A.length vc) A) ?_ ?_
    rotate_left
    · intro J K' hJ hK
      refine wp_letter ?_
      intro fr hfr
      have hsz : 23 < fr.tmps.size := by rw [hfr]; exact Nat.le_of_ble_eq_true rfl
      have t7 : fr.eval (.tmp 7) = (.slice va A.length vc) := by rw [hfr]; rfl
      have t6 : fr.eval (.tmp 6) = .pointer (some ⟨W.heap.size, 0, none⟩) := by rw [hfr]; rfl
      have HFR := (show Hid _ from hfr)
      clear hfr
      refine wp_region_use (by kernel_rfl) (by kernel_rfl) dsJaz slotJaz (IaF W.heap.size (.slice va A.length vc)) (fun w => Draw W a len cap W.heap.size w ∧ OwnV w w1.heap.size (.slice va A.length vc) A) (fun _ _ => false) ⟨HX3.out.2.drewN 1, HX3.out.1.below ((Below.refl _ _).drew)⟩ ?_ ?_ ?_ ?_ ?_
      · intro j f f' wy hj he h
        match j, hj with
        | 0, _ =>
          have e0 : f 14 = f' 14 := he 0 (by kernel_rfl)
          simp only [IaF, e0] at h ⊢
          exact h
        | 1, _ =>
          have e1 : f 15 = f' 15 := he 1 (by kernel_rfl)
          simp only [IaF, e1] at h ⊢
          exact h
        | 2, _ =>
          have e2 : f 16 = f' 16 := he 2 (by kernel_rfl)
          simp only [IaF, e2] at h ⊢
          exact h
        | 3, _ =>
          have e3 : f 17 = f' 17 := he 3 (by kernel_rfl)
          simp only [IaF, e3] at h ⊢
          exact h
        | 4, _ =>
          have e4 : f 18 = f' 18 := he 4 (by kernel_rfl)
          simp only [IaF, e4] at h ⊢
          exact h
        | 5, _ =>
          have e5 : f 19 = f' 19 := he 5 (by kernel_rfl)
          simp only [IaF, e5] at h ⊢
          exact h
        | 6, _ =>
          have e6 : f 20 = f' 20 := he 6 (by kernel_rfl)
          simp only [IaF, e6] at h ⊢
          exact h
        | 7, _ =>
          have e7 : f 21 = f' 21 := he 7 (by kernel_rfl)
          simp only [IaF, e7] at h ⊢
          exact h
        | 8, _ =>
          have e8 : f 22 = f' 22 := he 8 (by kernel_rfl)
          simp only [IaF, e8] at h ⊢
          exact h
        | 9, _ =>
          have e9 : f 23 = f' 23 := he 9 (by kernel_rfl)
          simp only [IaF, e9] at h ⊢
          exact h
        | 10, _ =>
          have e10 : f 2 = f' 2 := he 10 (by kernel_rfl)
          simp only [IaF, e10] at h ⊢
          exact h
        | 11, _ =>
          have e11 : f 3 = f' 3 := he 11 (by kernel_rfl)
          simp only [IaF, e11] at h ⊢
          exact h
        | 12, _ =>
          have e12 : f 4 = f' 4 := he 12 (by kernel_rfl)
          simp only [IaF, e12] at h ⊢
          exact h
        | 13, _ =>
          have e13 : f 5 = f' 5 := he 13 (by kernel_rfl)
          simp only [IaF, e13] at h ⊢
          exact h
      · intro i hi
        exact slotJaz_mem i hi
      · intro i j hi hj q
        exact slotJaz_inj i j hi hj q
      · intro ops hops done f wy j oo hG ho hdn hcl hd hF
        have ho2 := ho
        rw [hops] at ho
        have hj : j < 14 := by
          rcases Nat.lt_or_ge j 14 with h | h
          · exact h
          · rw [Array.getElem?_eq_none (by simpa using h)] at ho; cases ho
        have N7 := (canon_eval_ne fr dsJaz f 7 (by decide)).trans t7
        have N6 := (canon_eval_ne fr dsJaz f 6 (by decide)).trans t6
        have C14 := canon_eval fr dsJaz f 14 (by decide) (Nat.lt_of_le_of_lt (by decide) hsz)
        have C15 := canon_eval fr dsJaz f 15 (by decide) (Nat.lt_of_le_of_lt (by decide) hsz)
        have C16 := canon_eval fr dsJaz f 16 (by decide) (Nat.lt_of_le_of_lt (by decide) hsz)
        have C17 := canon_eval fr dsJaz f 17 (by decide) (Nat.lt_of_le_of_lt (by decide) hsz)
        have C18 := canon_eval fr dsJaz f 18 (by decide) (Nat.lt_of_le_of_lt (by decide) hsz)
        have C19 := canon_eval fr dsJaz f 19 (by decide) (Nat.lt_of_le_of_lt (by decide) hsz)
        have C20 := canon_eval fr dsJaz f 20 (by decide) (Nat.lt_of_le_of_lt (by decide) hsz)
        have C21 := canon_eval fr dsJaz f 21 (by decide) (Nat.lt_of_le_of_lt (by decide) hsz)
        have C22 := canon_eval fr dsJaz f 22 (by decide) (Nat.lt_of_le_of_lt (by decide) hsz)
        have C23 := canon_eval fr dsJaz f 23 (by decide) (Nat.lt_of_le_of_lt (by decide) hsz)
        have C2 := canon_eval fr dsJaz f 2 (by decide) (Nat.lt_of_le_of_lt (by decide) hsz)
        have C3 := canon_eval fr dsJaz f 3 (by decide) (Nat.lt_of_le_of_lt (by decide) hsz)
        have C4 := canon_eval fr dsJaz f 4 (by decide) (Nat.lt_of_le_of_lt (by decide) hsz)
        have C5 := canon_eval fr dsJaz f 5 (by decide) (Nat.lt_of_le_of_lt (by decide) hsz)
        have hj' : j = 0 ∨ j = 1 ∨ j = 2 ∨ j = 3 ∨ j = 4 ∨ j = 5 ∨ j = 6 ∨ j = 7 ∨ j = 8 ∨ j = 9 ∨ j = 10 ∨ j = 11 ∨ j = 12 ∨ j = 13 := by omega
        rcases hj' with rfl | rfl | rfl | rfl | rfl | rfl | rfl | rfl | rfl | rfl | rfl | rfl | rfl | rfl <;> simp only [List.getElem?_toArray, List.getElem?_cons_succ, List.getElem?_cons_zero, Option.some.injEq] at ho <;> subst ho
        · refine wpOp_runG ho2 (wanted_none rfl) (q_moveE (canon fr dsJaz f).eval _ wy _ rfl) ?_
          exact ⟨_, rfl, (upd_same f 14 _).trans N7, hG, fun j _ _ _ _ _ h => h⟩
        · refine wpOp_runG ho2 (wanted_none rfl) (q_moveE (canon fr dsJaz f).eval _ wy _ rfl) ?_
          exact ⟨_, rfl, (upd_same f 15 _).trans N6, hG, fun j _ _ _ _ _ h => h⟩
        · refine wpOp_enterG ho2 (wanted_none rfl) (q_call3E (canon fr dsJaz f).eval _ wy _ enters_off _ _ _ _ rfl rfl) ?_
          rw [C15.trans (hF ⟨1, .data⟩ (by simp) rfl (fun k _ hdk => (show k ≠ 2 by rintro rfl; rw [hdn] at hdk; cases hdk) |> fun hk => by simp [useA, useS, hk]))]
          refine (off19_any hU wy hG.1).mono ?_
          rintro e wv ⟨z, _, _, rfl, hD, hM⟩
          exact ⟨_, rfl, _, rfl, ⟨z, upd_same f 16 _⟩, ⟨hD, hG.2.mut hM HR.out⟩, fun j _ _ _ _ _ h => h.mut hM⟩
        · refine wpOp_runG ho2 (wanted_none rfl) (q_moveE (canon fr dsJaz f).eval _ wy _ rfl) ?_
          exact ⟨_, rfl, (upd_same f 17 _).trans N6, hG, fun j _ _ _ _ _ h => h⟩
        · refine wpOp_enterG ho2 (wanted_none rfl) (q_call3E (canon fr dsJaz f).eval _ wy _ enters_off _ _ _ _ rfl rfl) ?_
          rw [C17.trans (hF ⟨3, .data⟩ (by simp) rfl (fun k _ hdk => (show k ≠ 4 by rintro rfl; rw [hdn] at hdk; cases hdk) |> fun hk => by simp [useA, useS, hk]))]
          refine (off03_any hU wy hG.1).mono ?_
          rintro e wv ⟨z, _, _, rfl, hD, hM⟩
          exact ⟨_, rfl, _, rfl, ⟨z, upd_same f 18 _⟩, ⟨hD, hG.2.mut hM HR.out⟩, fun j _ _ _ _ _ h => h.mut hM⟩
        · refine wpOp_runG ho2 (wanted_none rfl) (q_lit4S (canon fr dsJaz f).eval _ wy _ _ _ _ _ _ _ _ rfl rfl rfl rfl rfl) ?_
          refine ⟨_, rfl, ?_, ⟨hG.1.alloc _, hG.2.below ((Below.refl _ _).alloc (Nat.le_refl _) _)⟩, fun j _ _ _ _ _ h => h.mut ((Mut.refl W.heap.size wy).alloc _)⟩
          refine ⟨wy.heap.size, upd_same f 19 _, by have := hG.1.lt; omega, fun i hi => ?_⟩
          have hi' : i = 0 ∨ i = 1 ∨ i = 2 ∨ i = 3 := by omega
          rcases hi' with rfl | rfl | rfl | rfl
          · exact ⟨_, by decide, cellN (heap_alloc_new wy _)⟩
          · exact ⟨_, by decide, cellN (heap_alloc_new wy _)⟩
          · exact ⟨_, by decide, cellN (heap_alloc_new wy _)⟩
          · exact ⟨_, by decide, cellN (heap_alloc_new wy _)⟩
        · refine wpOp_runG ho2 (wanted_none rfl) (q_moveE (canon fr dsJaz f).eval _ wy _ rfl) ?_
          exact ⟨_, rfl, (upd_same f 20 _).trans N6, hG, fun j _ _ _ _ _ h => h⟩
        · refine wpOp_enterG ho2 (wanted_none rfl) (q_call2E (canon fr dsJaz f).eval _ wy _ enters_below _ _ _ rfl rfl) ?_
          rw [C20.trans (hF ⟨6, .data⟩ (by simp) rfl (fun k _ hdk => (show k ≠ 7 by rintro rfl; rw [hdn] at hdk; cases hdk) |> fun hk => by simp [useA, useS, hk]))]
          refine (below_any hU 4 (by omega) (by omega) wy hG.1).mono ?_
          rintro e wv ⟨z, h0, h1, rfl, hD, hM⟩
          exact ⟨_, rfl, _, rfl, ⟨z.toNat, by omega, (upd_same f 21 _).trans (by rw [Int.toNat_of_nonneg h0])⟩, ⟨hD, hG.2.mut hM HR.out⟩, fun j _ _ _ _ _ h => h.mut hM⟩
        · obtain ⟨g, eg, hgR, hc⟩ := (hF ⟨5, .data⟩ (by simp) rfl (fun k _ hdk => (show k ≠ 8 by rintro rfl; rw [hdn] at hdk; cases hdk) |> fun hk => by simp [useA, useS, hk]))
          obtain ⟨i, hi, ei⟩ := (hF ⟨7, .data⟩ (by simp) rfl (fun k _ hdk => (show k ≠ 8 by rintro rfl; rw [hdn] at hdk; cases hdk) |> fun hk => by simp [useA, useS, hk]))
          obtain ⟨sg, h8, hcc⟩ := hc i hi
          refine wpOp_runG ho2 (wanted_none rfl) (q_idxSE (canon fr dsJaz f).eval _ wy _ _ g 4 4 i rfl (C19.trans eg) (C21.trans ei) hi) ?_
          exact ⟨_, rfl, ⟨g, i, sg, upd_same f 22 _, hgR, h8, hcc⟩, hG, fun j _ _ _ _ _ h => h⟩
        · obtain ⟨g, i, sg, eg, hgR, h8, hcc⟩ := (hF ⟨8, .data⟩ (by simp) rfl (fun k _ hdk => (show k ≠ 9 by rintro rfl; rw [hdn] at hdk; cases hdk) |> fun hk => by simp [useA, useS, hk]))
          refine wpOp_runG ho2 (wanted_none rfl) (q_loadSE (canon fr dsJaz f).eval _ wy _ g i sg rfl (C22.trans eg) hcc) ?_
          exact ⟨_, rfl, ⟨sg, h8, upd_same f 23 _⟩, hG, fun j _ _ _ _ _ h => h⟩
        · refine wpOp_runG ho2 (wanted_none rfl) (q_assignE (canon fr dsJaz f).eval _ wy _ rfl) ?_
          exact ⟨_, rfl, (upd_same f 2 _).trans (C14.trans (hF ⟨0, .data⟩ (by simp) rfl (fun k _ hdk => (show k ≠ 10 by rintro rfl; rw [hdn] at hdk; cases hdk) |> fun hk => by simp [useA, useS, hk]))), hG, fun j _ _ _ _ _ h => h⟩
        · refine wpOp_runG ho2 (wanted_none rfl) (q_assignE (canon fr dsJaz f).eval _ wy _ rfl) ?_
          obtain ⟨z, hz⟩ := (hF ⟨2, .data⟩ (by simp) rfl (fun k _ hdk => (show k ≠ 11 by rintro rfl; rw [hdn] at hdk; cases hdk) |> fun hk => by simp [useA, useS, hk]))
          exact ⟨_, rfl, ⟨z, (upd_same f 3 _).trans (C16.trans hz)⟩, hG, fun j _ _ _ _ _ h => h⟩
        · refine wpOp_runG ho2 (wanted_none rfl) (q_assignE (canon fr dsJaz f).eval _ wy _ rfl) ?_
          obtain ⟨z, hz⟩ := (hF ⟨4, .data⟩ (by simp) rfl (fun k _ hdk => (show k ≠ 12 by rintro rfl; rw [hdn] at hdk; cases hdk) |> fun hk => by simp [useA, useS, hk]))
          exact ⟨_, rfl, ⟨z, (upd_same f 4 _).trans (C18.trans hz)⟩, hG, fun j _ _ _ _ _ h => h⟩
        · refine wpOp_runG ho2 (wanted_none rfl) (q_assignE (canon fr dsJaz f).eval _ wy _ rfl) ?_
          obtain ⟨z, h8, hz⟩ := (hF ⟨9, .data⟩ (by simp) rfl (fun k _ hdk => (show k ≠ 13 by rintro rfl; rw [hdn] at hdk; cases hdk) |> fun hk => by simp [useA, useS, hk]))
          exact ⟨_, rfl, ⟨z, h8, (upd_same f 5 _).trans (C23.trans hz)⟩, hG, fun j _ _ _ _ _ h => h⟩
      · intro f wy hG hall
        exact hK _ _ (Met.intro (hJ _ _ ⟨f, congrArg (fun z => canon z dsJaz f) HFR.out, hall 10 (by decide) (fun _ _ => rfl), hall 11 (by decide) (fun _ _ => rfl), hall 12 (by decide) (fun _ _ => rfl), hall 13 (by decide) (fun _ _ => rfl), hG.1, hG.2⟩))
    rintro _ wf ⟨f, rfl, h2, ⟨au, h3⟩, ⟨z, h4⟩, ⟨sg, h8, h5⟩, hD, hO⟩
    simp only [canon, dsJaz, List.foldl, Act.put, List.setIfInBounds_toArray, List.set_cons_succ, List.set_cons_zero]
    rw [h2, h3, h4, h5]
    have HF : Hid (sg.size ≤ 8 ∧ Draw W a len cap W.heap.size wf ∧ OwnV wf w1.heap.size (.slice va A.length vc) A) := ⟨h8, hD, hO⟩
    clear h2 h3 h4 h5 h8 hD hO
    go_wp2
    refine bodyPost_ret (results_4t (u := 2) (v := 3) (x := 4) (y := 5) rfl _ _) rfl ?_
    exact ⟨_, A, _, _, sg, rfl, HF.out.1, HF.out.2.2.base (Nat.le_of_lt HR.out), HG.out.1, HF.out.2.1.bel, HSM.out⟩
  | false =>
    go_wp2
    refine wp_cut_to (fun a0 t w' => ∃ f, t = canon a0 dsJbz f ∧ f 2 = (.slice va A.length vc) ∧ (∃ z : Int, f 3 = .int .i64 z) ∧ (∃ z : Int, f 4 = .int .i64 z) ∧ (∃ sg : ByteArray, sg.size ≤ 8 ∧ f 5 = .string sg) ∧ Draw W a len cap W.heap.size w' ∧ OwnV w' w1.heap.size (.slice va A.length vc) A) ?_ ?_
    rotate_left
    · intro J K' hJ hK
      refine wp_letter ?_
      intro fr hfr
      have hsz : 38 < fr.tmps.size := by rw [hfr]; exact Nat.le_of_ble_eq_true rfl
      have t7 : fr.eval (.tmp 7) = (.slice va A.length vc) := by rw [hfr]; rfl
      have t6 : fr.eval (.tmp 6) = .pointer (some ⟨W.heap.size, 0, none⟩) := by rw [hfr]; rfl
      have HFR := (show Hid _ from hfr)
      clear hfr
      refine wp_region_use (by kernel_rfl) (by kernel_rfl) dsJbz slotJbz (IbF W.heap.size (.slice va A.length vc)) (fun w => Draw W a len cap W.heap.size w ∧ OwnV w w1.heap.size (.slice va A.length vc) A) (fun _ _ => false) ⟨HX3.out.2.drewN 1, HX3.out.1.below ((Below.refl _ _).drew)⟩ ?_ ?_ ?_ ?_ ?_
      · intro j f f' wy hj he h
        match j, hj with
        | 0, _ =>
          have e0 : f 24 = f' 24 := he 0 (by kernel_rfl)
          simp only [IbF, e0] at h ⊢
          exact h
        | 1, _ =>
          have e1 : f 25 = f' 25 := he 1 (by kernel_rfl)
          simp only [IbF, e1] at h ⊢
          exact h
        | 2, _ =>
          have e2 : f 26 = f' 26 := he 2 (by kernel_rfl)
          simp only [IbF, e2] at h ⊢
          exact h
        | 3, _ =>
          have e3 : f 27 = f' 27 := he 3 (by kernel_rfl)
          simp only [IbF, e3] at h ⊢
          exact h
        | 4, _ =>
          have e4 : f 28 = f' 28 := he 4 (by kernel_rfl)
          simp only [IbF, e4] at h ⊢
          exact h
        | 5, _ =>
          have e5 : f 29 = f' 29 := he 5 (by kernel_rfl)
          simp only [IbF, e5] at h ⊢
          exact h
        | 6, _ =>
          have e6 : f 30 = f' 30 := he 6 (by kernel_rfl)
          simp only [IbF, e6] at h ⊢
          exact h
        | 7, _ =>
          have e7 : f 31 = f' 31 := he 7 (by kernel_rfl)
          simp only [IbF, e7] at h ⊢
          exact h
        | 8, _ =>
          have e8 : f 32 = f' 32 := he 8 (by kernel_rfl)
          simp only [IbF, e8] at h ⊢
          exact h
        | 9, _ =>
          have e9 : f 33 = f' 33 := he 9 (by kernel_rfl)
          simp only [IbF, e9] at h ⊢
          exact h
        | 10, _ =>
          have e10 : f 34 = f' 34 := he 10 (by kernel_rfl)
          simp only [IbF, e10] at h ⊢
          exact h
        | 11, _ =>
          have e11 : f 35 = f' 35 := he 11 (by kernel_rfl)
          simp only [IbF, e11] at h ⊢
          exact h
        | 12, _ =>
          have e12 : f 36 = f' 36 := he 12 (by kernel_rfl)
          simp only [IbF, e12] at h ⊢
          exact h
        | 13, _ =>
          have e13 : f 37 = f' 37 := he 13 (by kernel_rfl)
          simp only [IbF, e13] at h ⊢
          exact h
        | 14, _ =>
          have e14 : f 38 = f' 38 := he 14 (by kernel_rfl)
          simp only [IbF, e14] at h ⊢
          exact h
        | 15, _ =>
          have e15 : f 2 = f' 2 := he 15 (by kernel_rfl)
          simp only [IbF, e15] at h ⊢
          exact h
        | 16, _ =>
          have e16 : f 3 = f' 3 := he 16 (by kernel_rfl)
          simp only [IbF, e16] at h ⊢
          exact h
        | 17, _ =>
          have e17 : f 4 = f' 4 := he 17 (by kernel_rfl)
          simp only [IbF, e17] at h ⊢
          exact h
        | 18, _ =>
          have e18 : f 5 = f' 5 := he 18 (by kernel_rfl)
          simp only [IbF, e18] at h ⊢
          exact h
        | (m + 19), hj => exact absurd (show m + 19 < 19 from hj) (by omega)
      · intro i hi
        exact slotJbz_mem i hi
      · intro i j hi hj q
        exact slotJbz_inj i j hi hj q
      · intro ops hops done f wy j oo hG ho hdn hcl hd hF
        have ho2 := ho
        rw [hops] at ho
        have hj : j < 19 := by
          rcases Nat.lt_or_ge j 19 with h | h
          · exact h
          · rw [Array.getElem?_eq_none (by simpa using h)] at ho; cases ho
        have N7 := (canon_eval_ne fr dsJbz f 7 (by decide)).trans t7
        have N6 := (canon_eval_ne fr dsJbz f 6 (by decide)).trans t6
        have C24 := canon_eval fr dsJbz f 24 (by decide) (Nat.lt_of_le_of_lt (by decide) hsz)
        have C25 := canon_eval fr dsJbz f 25 (by decide) (Nat.lt_of_le_of_lt (by decide) hsz)
        have C26 := canon_eval fr dsJbz f 26 (by decide) (Nat.lt_of_le_of_lt (by decide) hsz)
        have C27 := canon_eval fr dsJbz f 27 (by decide) (Nat.lt_of_le_of_lt (by decide) hsz)
        have C28 := canon_eval fr dsJbz f 28 (by decide) (Nat.lt_of_le_of_lt (by decide) hsz)
        have C29 := canon_eval fr dsJbz f 29 (by decide) (Nat.lt_of_le_of_lt (by decide) hsz)
        have C30 := canon_eval fr dsJbz f 30 (by decide) (Nat.lt_of_le_of_lt (by decide) hsz)
        have C31 := canon_eval fr dsJbz f 31 (by decide) (Nat.lt_of_le_of_lt (by decide) hsz)
        have C32 := canon_eval fr dsJbz f 32 (by decide) (Nat.lt_of_le_of_lt (by decide) hsz)
        have C33 := canon_eval fr dsJbz f 33 (by decide) (Nat.lt_of_le_of_lt (by decide) hsz)
        have C34 := canon_eval fr dsJbz f 34 (by decide) (Nat.lt_of_le_of_lt (by decide) hsz)
        have C35 := canon_eval fr dsJbz f 35 (by decide) (Nat.lt_of_le_of_lt (by decide) hsz)
        have C36 := canon_eval fr dsJbz f 36 (by decide) (Nat.lt_of_le_of_lt (by decide) hsz)
        have C37 := canon_eval fr dsJbz f 37 (by decide) (Nat.lt_of_le_of_lt (by decide) hsz)
        have C38 := canon_eval fr dsJbz f 38 (by decide) (Nat.lt_of_le_of_lt (by decide) hsz)
        have C2 := canon_eval fr dsJbz f 2 (by decide) (Nat.lt_of_le_of_lt (by decide) hsz)
        have C3 := canon_eval fr dsJbz f 3 (by decide) (Nat.lt_of_le_of_lt (by decide) hsz)
        have C4 := canon_eval fr dsJbz f 4 (by decide) (Nat.lt_of_le_of_lt (by decide) hsz)
        have C5 := canon_eval fr dsJbz f 5 (by decide) (Nat.lt_of_le_of_lt (by decide) hsz)
        have hj' : j = 0 ∨ j = 1 ∨ j = 2 ∨ j = 3 ∨ j = 4 ∨ j = 5 ∨ j = 6 ∨ j = 7 ∨ j = 8 ∨ j = 9 ∨ j = 10 ∨ j = 11 ∨ j = 12 ∨ j = 13 ∨ j = 14 ∨ j = 15 ∨ j = 16 ∨ j = 17 ∨ j = 18 := by omega
        rcases hj' with rfl | rfl | rfl | rfl | rfl | rfl | rfl | rfl | rfl | rfl | rfl | rfl | rfl | rfl | rfl | rfl | rfl | rfl | rfl <;> simp only [List.getElem?_toArray, List.getElem?_cons_succ, List.getElem?_cons_zero, Option.some.injEq] at ho <;> subst ho
        · refine wpOp_runG ho2 (wanted_none rfl) (q_moveE (canon fr dsJbz f).eval _ wy _ rfl) ?_
          exact ⟨_, rfl, (upd_same f 24 _).trans N7, hG, fun j _ _ _ _ _ h => h⟩
        · refine wpOp_runG ho2 (wanted_none rfl) (q_moveE (canon fr dsJbz f).eval _ wy _ rfl) ?_
          exact ⟨_, rfl, (upd_same f 25 _).trans N6, hG, fun j _ _ _ _ _ h => h⟩
        · refine wpOp_enterG ho2 (wanted_none rfl) (q_call2E (canon fr dsJbz f).eval _ wy _ enters_below _ _ _ rfl rfl) ?_
          rw [C25.trans (hF ⟨1, .data⟩ (by simp) rfl (fun k _ hdk => (show k ≠ 2 by rintro rfl; rw [hdn] at hdk; cases hdk) |> fun hk => by simp [useA, useS, hk]))]
          refine (below_any hU 4 (by omega) (by omega) wy hG.1).mono ?_
          rintro e wv ⟨z, h0, h1, rfl, hD, hM⟩
          exact ⟨_, rfl, _, rfl, ⟨z, upd_same f 26 _⟩, ⟨hD, hG.2.mut hM HR.out⟩, fun j _ _ _ _ _ h => h.mut hM⟩
        · obtain ⟨z, hz⟩ := (hF ⟨2, .data⟩ (by simp) rfl (fun k _ hdk => (show k ≠ 3 by rintro rfl; rw [hdn] at hdk; cases hdk) |> fun hk => by simp [useA, useS, hk]))
          refine wpOp_runG ho2 (wanted_none rfl) (q_addE (canon fr dsJbz f).eval _ wy _ _ 1 z rfl rfl (C26.trans hz)) ?_
          exact ⟨_, rfl, ⟨_, upd_same f 27 _⟩, hG, fun j _ _ _ _ _ h => h⟩
        · refine wpOp_runG ho2 (wanted_none rfl) (q_moveE (canon fr dsJbz f).eval _ wy _ rfl) ?_
          exact ⟨_, rfl, (upd_same f 28 _).trans N6, hG, fun j _ _ _ _ _ h => h⟩
        · refine wpOp_runG ho2 (wanted_none rfl) (q_moveE (canon fr dsJbz f).eval _ wy _ rfl) ?_
          exact ⟨_, rfl, (upd_same f 29 _).trans N7, hG, fun j _ _ _ _ _ h => h⟩
        · refine wpOp_enterG ho2 (wanted_none rfl) (q_callE (canon fr dsJbz f).eval _ wy _ enters_ids _ _ rfl rfl) ?_
          rw [C29.trans (hF ⟨5, .data⟩ (by simp) rfl (fun k _ hdk => (show k ≠ 6 by rintro rfl; rw [hdn] at hdk; cases hdk) |> fun hk => by simp [useA, useS, hk]))]
          refine (l10Ids_any va A.length vc (gD A) wy (HIS.out wy hG.2) HG.out.2).mono ?_
          rintro e wv ⟨vi, rfl, hO, hB⟩
          obtain ⟨vb, vd, rfl⟩ := hO.slice
          exact ⟨_, rfl, _, rfl, ⟨vb, _, vd, by rw [← idsR_yes HG.out.2]; exact idsR_len _ _, upd_same f 30 _⟩, ⟨hG.1.below hB, hG.2.below hB⟩, fun j _ _ _ _ _ h => h.mut (Mut.of_below hB)⟩
        · obtain ⟨vb, n, c, hn, hz⟩ := (hF ⟨6, .data⟩ (by simp) rfl (fun k _ hdk => (show k ≠ 7 by rintro rfl; rw [hdn] at hdk; cases hdk) |> fun hk => by simp [useA, useS, hk]))
          refine wpOp_runG ho2 (wanted_none rfl) (q_lenI (canon fr dsJbz f).eval _ wy _ vb n c rfl (C30.trans hz)) ?_
          exact ⟨_, rfl, ⟨n, hn, upd_same f 31 _⟩, hG, fun j _ _ _ _ _ h => h⟩
        · obtain ⟨n, hn, hz⟩ := (hF ⟨7, .data⟩ (by simp) rfl (fun k _ hdk => (show k ≠ 8 by rintro rfl; rw [hdn] at hdk; cases hdk) |> fun hk => by simp [useA, useS, hk]))
          refine wpOp_runG ho2 (wanted_none rfl) (q_addE (canon fr dsJbz f).eval _ wy _ _ (n : Int) 1 rfl (C31.trans hz) rfl) ?_
          have hw : IntKind.i64.wrap ((n : Int) + 1) = ((n + 1 : Nat) : Int) := by rw [IntKind.wrap_i64]; omega
          exact ⟨_, rfl, ⟨n + 1, by omega, by omega, (upd_same f 32 _).trans (congrArg (Value.int .i64) hw)⟩, hG, fun j _ _ _ _ _ h => h⟩
        · obtain ⟨n, hn1, hn, hz⟩ := (hF ⟨8, .data⟩ (by simp) rfl (fun k _ hdk => (show k ≠ 9 by rintro rfl; rw [hdn] at hdk; cases hdk) |> fun hk => by simp [useA, useS, hk]))
          refine wpOp_enterG ho2 (wanted_none rfl) (q_call2E (canon fr dsJbz f).eval _ wy _ enters_below _ _ _ rfl rfl) ?_
          rw [C28.trans (hF ⟨4, .data⟩ (by simp) rfl (fun k _ hdk => (show k ≠ 9 by rintro rfl; rw [hdn] at hdk; cases hdk) |> fun hk => by simp [useA, useS, hk])), C32.trans hz]
          refine (belowN_any hU n hn1 (by omega) wy hG.1).mono ?_
          rintro e wv ⟨y, hy, rfl, hD, hM⟩
          exact ⟨_, rfl, _, rfl, ⟨_, upd_same f 33 _⟩, ⟨hD, hG.2.mut hM HR.out⟩, fun j _ _ _ _ _ h => h.mut hM⟩
        · refine wpOp_runG ho2 (wanted_none rfl) (q_lit3S (canon fr dsJbz f).eval _ wy _ _ _ _ _ _ rfl rfl rfl rfl) ?_
          refine ⟨_, rfl, ?_, ⟨hG.1.alloc _, hG.2.below ((Below.refl _ _).alloc (Nat.le_refl _) _)⟩, fun j _ _ _ _ _ h => h.mut ((Mut.refl W.heap.size wy).alloc _)⟩
          refine ⟨wy.heap.size, upd_same f 34 _, by have := hG.1.lt; omega, fun i hi => ?_⟩
          have hi' : i = 0 ∨ i = 1 ∨ i = 2 := by omega
          rcases hi' with rfl | rfl | rfl
          · exact ⟨_, by decide, cellN (heap_alloc_new wy _)⟩
          · exact ⟨_, by decide, cellN (heap_alloc_new wy _)⟩
          · exact ⟨_, by decide, cellN (heap_alloc_new wy _)⟩
        · refine wpOp_runG ho2 (wanted_none rfl) (q_moveE (canon fr dsJbz f).eval _ wy _ rfl) ?_
          exact ⟨_, rfl, (upd_same f 35 _).trans N6, hG, fun j _ _ _ _ _ h => h⟩
        · refine wpOp_enterG ho2 (wanted_none rfl) (q_call2E (canon fr dsJbz f).eval _ wy _ enters_below _ _ _ rfl rfl) ?_
          rw [C35.trans (hF ⟨11, .data⟩ (by simp) rfl (fun k _ hdk => (show k ≠ 12 by rintro rfl; rw [hdn] at hdk; cases hdk) |> fun hk => by simp [useA, useS, hk]))]
          refine (below_any hU 3 (by omega) (by omega) wy hG.1).mono ?_
          rintro e wv ⟨z, h0, h1, rfl, hD, hM⟩
          exact ⟨_, rfl, _, rfl, ⟨z.toNat, by omega, (upd_same f 36 _).trans (by rw [Int.toNat_of_nonneg h0])⟩, ⟨hD, hG.2.mut hM HR.out⟩, fun j _ _ _ _ _ h => h.mut hM⟩
        · obtain ⟨g, eg, hgR, hc⟩ := (hF ⟨10, .data⟩ (by simp) rfl (fun k _ hdk => (show k ≠ 13 by rintro rfl; rw [hdn] at hdk; cases hdk) |> fun hk => by simp [useA, useS, hk]))
          obtain ⟨i, hi, ei⟩ := (hF ⟨12, .data⟩ (by simp) rfl (fun k _ hdk => (show k ≠ 13 by rintro rfl; rw [hdn] at hdk; cases hdk) |> fun hk => by simp [useA, useS, hk]))
          obtain ⟨sg, h8, hcc⟩ := hc i hi
          refine wpOp_runG ho2 (wanted_none rfl) (q_idxSE (canon fr dsJbz f).eval _ wy _ _ g 3 3 i rfl (C34.trans eg) (C36.trans ei) hi) ?_
          exact ⟨_, rfl, ⟨g, i, sg, upd_same f 37 _, hgR, h8, hcc⟩, hG, fun j _ _ _ _ _ h => h⟩
        · obtain ⟨g, i, sg, eg, hgR, h8, hcc⟩ := (hF ⟨13, .data⟩ (by simp) rfl (fun k _ hdk => (show k ≠ 14 by rintro rfl; rw [hdn] at hdk; cases hdk) |> fun hk => by simp [useA, useS, hk]))
          refine wpOp_runG ho2 (wanted_none rfl) (q_loadSE (canon fr dsJbz f).eval _ wy _ g i sg rfl (C37.trans eg) hcc) ?_
          exact ⟨_, rfl, ⟨sg, h8, upd_same f 38 _⟩, hG, fun j _ _ _ _ _ h => h⟩
        · refine wpOp_runG ho2 (wanted_none rfl) (q_assignE (canon fr dsJbz f).eval _ wy _ rfl) ?_
          exact ⟨_, rfl, (upd_same f 2 _).trans (C24.trans (hF ⟨0, .data⟩ (by simp) rfl (fun k _ hdk => (show k ≠ 15 by rintro rfl; rw [hdn] at hdk; cases hdk) |> fun hk => by simp [useA, useS, hk]))), hG, fun j _ _ _ _ _ h => h⟩
        · refine wpOp_runG ho2 (wanted_none rfl) (q_assignE (canon fr dsJbz f).eval _ wy _ rfl) ?_
          obtain ⟨z, hz⟩ := (hF ⟨3, .data⟩ (by simp) rfl (fun k _ hdk => (show k ≠ 16 by rintro rfl; rw [hdn] at hdk; cases hdk) |> fun hk => by simp [useA, useS, hk]))
          exact ⟨_, rfl, ⟨z, (upd_same f 3 _).trans (C27.trans hz)⟩, hG, fun j _ _ _ _ _ h => h⟩
        · refine wpOp_runG ho2 (wanted_none rfl) (q_assignE (canon fr dsJbz f).eval _ wy _ rfl) ?_
          obtain ⟨z, hz⟩ := (hF ⟨9, .data⟩ (by simp) rfl (fun k _ hdk => (show k ≠ 17 by rintro rfl; rw [hdn] at hdk; cases hdk) |> fun hk => by simp [useA, useS, hk]))
          exact ⟨_, rfl, ⟨z, (upd_same f 4 _).trans (C33.trans hz)⟩, hG, fun j _ _ _ _ _ h => h⟩
        · refine wpOp_runG ho2 (wanted_none rfl) (q_assignE (canon fr dsJbz f).eval _ wy _ rfl) ?_
          obtain ⟨z, h8, hz⟩ := (hF ⟨14, .data⟩ (by simp) rfl (fun k _ hdk => (show k ≠ 18 by rintro rfl; rw [hdn] at hdk; cases hdk) |> fun hk => by simp [useA, useS, hk]))
          exact ⟨_, rfl, ⟨z, h8, (upd_same f 5 _).trans (C38.trans hz)⟩, hG, fun j _ _ _ _ _ h => h⟩
      · intro f wy hG hall
        exact hK _ _ (Met.intro (hJ _ _ ⟨f, congrArg (fun z => canon z dsJbz f) HFR.out, hall 15 (by decide) (fun _ _ => rfl), hall 16 (by decide) (fun _ _ => rfl), hall 17 (by decide) (fun _ _ => rfl), hall 18 (by decide) (fun _ _ => rfl), hG.1, hG.2⟩))
    rintro _ wf ⟨f, rfl, h2, ⟨au, h3⟩, ⟨z, h4⟩, ⟨sg, h8, h5⟩, hD, hO⟩
    simp only [canon, dsJbz, List.foldl, Act.put, List.setIfInBounds_toArray, List.set_cons_succ, List.set_cons_zero]
    rw [h2, h3, h4, h5]
    have HF : Hid (sg.size ≤ 8 ∧ Draw W a len cap W.heap.size wf ∧ OwnV wf w1.heap.size (.slice va A.length vc) A) := ⟨h8, hD, hO⟩
    clear h2 h3 h4 h5 h8 hD hO
    go_wp2
    refine bodyPost_ret (results_4t (u := 2) (v := 3) (x := 4) (y := 5) rfl _ _) rfl ?_
    exact ⟨_, A, _, _, sg, rfl, HF.out.1, HF.out.2.2.base (Nat.le_of_lt HR.out), HG.out.1, HF.out.2.1.bel, HSM.out⟩
end Go.Proofs.Ytjfciokpnhnhbaa

namespace Go.Proofs.Ytjfciokpnhnhbaa
open Go.RowKit
set_option linter.unusedVariables false

def sgX : ByteArray := ⟨#[120]⟩
def sgY : ByteArray := ⟨#[121]⟩
def sgP : ByteArray := ⟨#[112]⟩
def sgQ : ByteArray := ⟨#[113]⟩
def bX (A : List Ev) (j : Nat) : Ev := opI (gD A) A.length 1 (j : Int) sgX
def bY (A : List Ev) (j : Nat) : Ev := opI (gD (A ++ [bX A j])) (A ++ [bX A j]).length 1 ((j : Int) + 1) sgY
def bP (A : List Ev) (j : Nat) : Ev := opI (gD A) A.length 2 (j : Int) sgP
def bQ (A : List Ev) (j : Nat) : Ev := opI (gD (A ++ [bP A j])) (A ++ [bP A j]).length 2 ((j : Int) + 1) sgQ
theorem sgX_ok : sgB sgX = true := by decide
theorem sgY_ok : sgB sgY = true := by decide
theorem sgP_ok : sgB sgP = true := by decide
theorem sgQ_ok : sgB sgQ = true := by decide
theorem four_of {A : List Ev} {j : Nat} (h : okA A) (hs : SmK 0 A) (hz : j ≤ (idA A).length) :
    Four A j (bX A j) (bY A j) (bP A j) (bQ A j) ∧ okI (gD (A ++ [bX A j])) (A ++ [bX A j]).length 1 ((j : Int) + 1) sgY = true ∧ okI (gD A) A.length 2 (j : Int) sgP = true ∧ okI (gD (A ++ [bP A j])) (A ++ [bP A j]).length 2 ((j : Int) + 1) sgQ = true := by
  obtain ⟨h1, h2, h3⟩ := hs
  have aX : (bX A j).a = 10 * (lastA (gD A) A.length / 10 + 1) + 1 := rfl
  have aP : (bP A j).a = 10 * (lastA (gD A) A.length / 10 + 1) + 2 := rfl
  have aY : (bY A j).a = 10 * ((bX A j).a / 10 + 1) + 1 := by
    show nid _ _ _ = _
    unfold nid
    rw [last_snoc]
  have aQ : (bQ A j).a = 10 * ((bP A j).a / 10 + 1) + 2 := by
    show nid _ _ _ = _
    unfold nid
    rw [last_snoc]
  have oX : okA (A ++ [bX A j]) := snoc_ok h (by omega) rfl sgX_ok (by omega) (by omega) (aft_in h (by omega) (by omega))
  have oP : okA (A ++ [bP A j]) := snoc_ok h (by omega) rfl sgP_ok (by omega) (by omega) (aft_in h (by omega) (by omega))
  have iX : idA (A ++ [bX A j]) = (idA A).take j ++ ((bX A j).a :: (idA A).drop j) := by
    rw [ids_snoc h oX rfl hz rfl, List.append_assoc]
    rfl
  have iP : idA (A ++ [bP A j]) = (idA A).take j ++ ((bP A j).a :: (idA A).drop j) := by
    rw [ids_snoc h oP rfl hz rfl, List.append_assoc]
    rfl
  have cY : (bY A j).c = (bX A j).a := by
    show aft (idA (A ++ [bX A j])) ((j : Int) + 1) = _
    rw [iX]
    exact aft_at hz
  have cQ : (bQ A j).c = (bP A j).a := by
    show aft (idA (A ++ [bP A j])) ((j : Int) + 1) = _
    rw [iP]
    exact aft_at hz
  have lX : (idA (A ++ [bX A j])).length = (idA A).length + 1 := by rw [iX, List.length_append, List.length_cons, List.length_take, List.length_drop]; omega
  have lP : (idA (A ++ [bP A j])).length = (idA A).length + 1 := by rw [iP, List.length_append, List.length_cons, List.length_take, List.length_drop]; omega
  refine ⟨⟨h, by omega, hz, rfl, rfl, rfl, rfl, sgX_ok, sgY_ok, sgP_ok, sgQ_ok, by omega, by omega, by omega, by omega, by omega, rfl, rfl, cY, cQ⟩, ?_, ?_, ?_⟩
  · exact okI_yes oX (by rw [List.length_append]; show A.length + 1 < 40; omega) (by rw [last_snoc]; omega) (by decide) (by decide) (by omega) (by rw [lX]; omega)
  · exact okI_yes h (by omega) (by omega) (by decide) (by decide) (by omega) (by omega)
  · exact okI_yes oP (by rw [List.length_append]; show A.length + 1 < 40; omega) (by rw [last_snoc]; omega) (by decide) (by decide) (by omega) (by rw [lP]; omega)
/-- an op that was put in can have come in -/
theorem opI_in {A : List Ev} {author z : Int} {sg : ByteArray} (hG : Good A) (hsg : sg.size ≤ 8) (h : okI (gD A) A.length author z sg = true) : Good (A ++ [opI (gD A) A.length author z sg]) := (stI_some (by omega) hG (stI_ok h)).1
end Go.Proofs.Ytjfciokpnhnhbaa
