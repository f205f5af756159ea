/-
  SeqTurned, plainly: what it makes of a sequence shows just the text. No condition.
-/
import Derived.Test.YtjfciokpnhnhbaaSqPd
import Derived.Test.YtjfciokpnhnhbaaSqTu
namespace Go.Proofs.Ytjfciokpnhnhbaa
open Go.RowKit
set_option linter.unusedVariables false

/-- the bytes of a text, as a list -/
def bl (s : ByteArray) : List UInt8 := s.data.toList
theorem bl_inj {s t : ByteArray} (h : bl s = bl t) : s = t := ByteArray.ext (Array.ext' h)
theorem bl_len (s : ByteArray) : (bl s).length = s.size := rfl
theorem bl_append (s t : ByteArray) : bl (s ++ t) = bl s ++ bl t := by unfold bl; rw [ByteArray.data_append, Array.toList_append]
theorem bl_extract (s : ByteArray) (i j : Nat) : bl (s.extract i j) = ((bl s).drop i).take (j - i) := by
  unfold bl
  rw [ByteArray.data_extract, Array.toList_extract]
theorem bl_left (s : ByteArray) (j : Nat) : bl (s.extract 0 j) = (bl s).take j := by rw [bl_extract]; rfl
theorem bl_right (s : ByteArray) (i : Nat) : bl (s.extract i s.size) = (bl s).drop i := by
  rw [bl_extract]
  exact List.take_of_length_le (by rw [List.length_drop, bl_len]; omega)
theorem bl_at {s t : ByteArray} {i j : Nat} (hi : i < s.size) (hj : j < t.size) (h : bt s i = bt t j) : (bl s)[i]? = (bl t)[j]? := by
  rw [← bt_in hi, ← bt_in hj] at h
  have h1 : s[i] = t[j] := by
    apply UInt8.toNat_inj.1
    omega
  have e1 : (bl s)[i]? = some s[i] := by rw [List.getElem?_eq_getElem (show i < (bl s).length from hi)]; rfl
  have e2 : (bl t)[j]? = some t[j] := by rw [List.getElem?_eq_getElem (show j < (bl t).length from hj)]; rfl
  rw [e1, e2, h1]
theorem gD_snoc (A : List Ev) (x : Ev) : gD (A ++ [x]) = snocD (gD A) A.length x := funext fun i => by unfold snocD; rw [listD_gD]; rfl
def txt (A : List Ev) : ByteArray := textR (gD A) A.length
def okA (A : List Ev) : Prop := seqB (gD A) A.length = true
theorem stD_text {author z : Int} {A B : List Ev} (hs : stD author z A = some B) :
    ∃ x, B = A ++ [x] ∧ okA A ∧ okA B ∧ ∃ j : Nat, z = (j : Int) ∧ j < (txt A).size ∧ bl (txt B) = (bl (txt A)).take j ++ (bl (txt A)).drop (j + 1) := by
  unfold stD at hs
  by_cases hk : okD (gD A) A.length author z = true
  · rw [if_pos hk] at hs
    obtain rfl := Option.some.inj hs
    unfold okD okW at hk
    simp only [Bool.and_eq_true] at hk
    obtain ⟨k1, ⟨k2, k3⟩, k4⟩ := hk
    unfold inB at k1
    simp only [Bool.and_eq_true, decide_eq_true_eq] at k1
    have hj : z.toNat < (idsR (gD A) A.length).length := by omega
    refine ⟨_, rfl, k2, ?_, z.toNat, by omega, by unfold txt; rw [text_size k2]; exact hj, ?_⟩
    · unfold okA
      rw [gD_snoc, List.length_append]
      exact k4
    · unfold txt
      rw [gD_snoc, List.length_append]
      have := text_del k2 k4 rfl hj rfl
      rw [show ([opD (gD A) A.length author z] : List Ev).length = 1 from rfl, this, bl_append, bl_left, bl_right]
  · rw [if_neg hk] at hs
    cases hs
theorem stI_text {author z : Int} {sg : ByteArray} {A B : List Ev} (hs : stI author z sg A = some B) :
    ∃ x, B = A ++ [x] ∧ okA A ∧ okA B ∧ ∃ j : Nat, z = (j : Int) ∧ j ≤ (txt A).size ∧ bl (txt B) = (bl (txt A)).take j ++ bl sg ++ (bl (txt A)).drop j := by
  unfold stI at hs
  by_cases hk : okI (gD A) A.length author z sg = true
  · rw [if_pos hk] at hs
    obtain rfl := Option.some.inj hs
    unfold okI okW at hk
    simp only [Bool.and_eq_true] at hk
    obtain ⟨k1, ⟨k2, k3⟩, k4⟩ := hk
    unfold inB at k1
    simp only [Bool.and_eq_true, decide_eq_true_eq] at k1
    obtain ⟨j, rfl⟩ : ∃ j : Nat, z = (j : Int) := ⟨z.toNat, by omega⟩
    have hj : j ≤ (idsR (gD A) A.length).length := by omega
    refine ⟨_, rfl, k2, ?_, j, rfl, by unfold txt; rw [text_size k2]; exact hj, ?_⟩
    · unfold okA
      rw [gD_snoc, List.length_append]
      exact k4
    · unfold txt
      rw [gD_snoc, List.length_append]
      have := text_ins k2 k4 rfl hj rfl
      rw [show ([opI (gD A) A.length author (j : Int) sg] : List Ev).length = 1 from rfl, this, bl_append, bl_append, bl_left, bl_right]
      rfl
  · rw [if_neg hk] at hs
    cases hs
theorem cut_take {L M : List UInt8} {b : Nat} (h : b ≤ L.length) : (L.take b ++ M).take b = L.take b := by
  rw [List.take_append_of_le_length (by rw [List.length_take]; omega), List.take_take, Nat.min_self]
theorem cut_drop {L M : List UInt8} {b k : Nat} (h : b ≤ L.length) : (L.take b ++ M).drop (b + k) = M.drop k := by
  rw [List.drop_append, List.drop_of_length_le (by rw [List.length_take]; omega), List.length_take, Nat.min_eq_left h, show b + k - b = k by omega]
  rfl
theorem itD_text {author : Int} {b : Nat} : ∀ (k : Nat) (A B : List Ev), okA A → b + k ≤ (txt A).size → itD author (b : Int) k A = some B →
    okA B ∧ (∃ C, B = A ++ C ∧ C.length = k) ∧ bl (txt B) = (bl (txt A)).take b ++ (bl (txt A)).drop (b + k) := by
  intro k
  induction k with
  | zero =>
    intro A B h hb hs
    obtain rfl := Option.some.inj (show some A = some B from hs)
    exact ⟨h, ⟨[], by simp, rfl⟩, by rw [Nat.add_zero, List.take_append_drop]⟩
  | succ k ih =>
    intro A B h hb hs
    cases h1 : stD author (b : Int) A with
    | none =>
      rw [itD_no h1] at hs
      cases hs
    | some B1 =>
      rw [itD_yes h1] at hs
      obtain ⟨x, rfl, _, o1, j, hj, hjs, ht⟩ := stD_text h1
      obtain rfl : b = j := by omega
      have hl : (bl (txt (A ++ [x]))).length = (txt A).size - 1 := by
        rw [ht, List.length_append, List.length_take, List.length_drop, bl_len]
        omega
      rw [bl_len] at hl
      obtain ⟨o2, ⟨C, rfl, hC⟩, ht2⟩ := ih (A ++ [x]) B o1 (by omega) hs
      refine ⟨o2, ⟨x :: C, by simp, by simp [hC]⟩, ?_⟩
      rw [ht2, ht, cut_take (by rw [bl_len]; omega), cut_drop (by rw [bl_len]; omega), List.drop_drop]
      congr 2
      omega
theorem itI_text {author : Int} {t : ByteArray} : ∀ (k i : Nat) (A B : List Ev), okA A → i ≤ (txt A).size → i + k ≤ t.size → itI author t k i A = some B →
    okA B ∧ (∃ C, B = A ++ C ∧ C.length = k) ∧ bl (txt B) = (bl (txt A)).take i ++ ((bl t).drop i).take k ++ (bl (txt A)).drop i := by
  intro k
  induction k with
  | zero =>
    intro i A B h hb _ hs
    obtain rfl := Option.some.inj (show some A = some B from hs)
    exact ⟨h, ⟨[], by simp, rfl⟩, by rw [List.take_zero, List.append_nil, List.take_append_drop]⟩
  | succ k ih =>
    intro i A B h hb hk hs
    cases h1 : stI author (i : Int) (t.extract i (i + 1)) A with
    | none =>
      rw [itI_no h1] at hs
      cases hs
    | some B1 =>
      rw [itI_yes h1] at hs
      obtain ⟨x, rfl, _, o1, j, hj, hjs, ht⟩ := stI_text h1
      obtain rfl : i = j := by omega
      have hi : i < (bl t).length := by rw [bl_len]; omega
      have hd : (bl t).drop i = (bl t)[i] :: (bl t).drop (i + 1) := List.drop_eq_getElem_cons hi
      have hsg : bl (t.extract i (i + 1)) = [(bl t)[i]] := by
        rw [bl_extract, show i + 1 - i = 1 by omega, hd]
        rfl
      rw [hsg] at ht
      have hl : (bl (txt (A ++ [x]))).length = (txt A).size + 1 := by
        rw [ht, List.length_append, List.length_append, List.length_take, List.length_drop, bl_len]
        show min i _ + 1 + _ = _
        omega
      rw [bl_len] at hl
      obtain ⟨o2, ⟨C, rfl, hC⟩, ht2⟩ := ih (i + 1) (A ++ [x]) B o1 (by omega) (by omega) hs
      refine ⟨o2, ⟨x :: C, by simp, by simp [hC]⟩, ?_⟩
      have hlen : ((bl (txt A)).take i ++ [(bl t)[i]]).length = i + 1 := by
        rw [List.length_append, List.length_take, bl_len]
        show min i _ + 1 = _
        omega
      have e1 : ((bl (txt A)).take i ++ [(bl t)[i]] ++ (bl (txt A)).drop i).take (i + 1) = (bl (txt A)).take i ++ [(bl t)[i]] := by
        rw [List.take_append_of_le_length (by rw [hlen]; exact Nat.le_refl _)]
        exact List.take_of_length_le (by rw [hlen]; exact Nat.le_refl _)
      have e2 : ((bl (txt A)).take i ++ [(bl t)[i]] ++ (bl (txt A)).drop i).drop (i + 1) = (bl (txt A)).drop i := by
        rw [List.drop_append_of_le_length (by rw [hlen]; exact Nat.le_refl _), List.drop_of_length_le (l := (bl (txt A)).take i ++ [(bl t)[i]]) (by rw [hlen]; exact Nat.le_refl _)]
        rfl
      rw [ht2, ht, e1, e2, hd, List.take_succ_cons]
      simp
theorem cbF_same {s t : ByteArray} : ∀ (f k : Nat), (bl s).take k = (bl t).take k → (bl s).take (cbF s t f k) = (bl t).take (cbF s t f k) := by
  intro f
  induction f with
  | zero => intro k h; exact h
  | succ f ih =>
    intro k h
    show (bl s).take (if _ then _ else _) = (bl t).take (if _ then _ else _)
    by_cases hc : k < s.size ∧ k < t.size ∧ bt s k = bt t k
    · rw [if_pos hc]
      refine ih (k + 1) ?_
      rw [List.take_add_one, List.take_add_one, h, bl_at hc.1 hc.2.1 hc.2.2]
    · rw [if_neg hc]
      exact h
theorem drop_step {L : List UInt8} {n k : Nat} (hn : L.length = n) (hk : k < n) : L.drop (n - (k + 1)) = L[n - 1 - k]?.toList ++ L.drop (n - k) := by
  have h : n - (k + 1) < L.length := by omega
  rw [List.drop_eq_getElem_cons h, show n - 1 - k = n - (k + 1) by omega, List.getElem?_eq_getElem h, show n - (k + 1) + 1 = n - k by omega]
  rfl
theorem ceF_same {s t : ByteArray} {b : Nat} : ∀ (f k : Nat), (bl s).drop (s.size - k) = (bl t).drop (t.size - k) → (bl s).drop (s.size - ceF s t b f k) = (bl t).drop (t.size - ceF s t b f k) := by
  intro f
  induction f with
  | zero => intro k h; exact h
  | succ f ih =>
    intro k h
    show (bl s).drop (s.size - (if _ then _ else _)) = (bl t).drop (t.size - (if _ then _ else _))
    by_cases hc : k < s.size - b ∧ k < t.size - b ∧ bt s (s.size - 1 - k) = bt t (t.size - 1 - k)
    · rw [if_pos hc]
      refine ih (k + 1) ?_
      rw [drop_step (bl_len s) (by omega), drop_step (bl_len t) (by omega), h, bl_at (by omega) (by omega) hc.2.2]
    · rw [if_neg hc]
      exact h
theorem cbF_self {s : ByteArray} : ∀ (f k : Nat), f + k = s.size → cbF s s f k = s.size := by
  intro f
  induction f with
  | zero => intro k h; show k = _; omega
  | succ f ih =>
    intro k h
    show (if _ then _ else _) = _
    rw [if_pos ⟨by omega, by omega, rfl⟩]
    exact ih (k + 1) (by omega)
theorem tu_text {A B : List Ev} {author : Int} {t : ByteArray} (h : tuR (gD A) A.length author t = some B) :
    okA B ∧ txt B = t ∧ (∃ C, B = A ++ C) ∧ (txt A = t → B = A) := by
  cases hG : tuG (gD A) A.length author t with
  | false => rw [tuR_no hG] at h; cases h
  | true =>
    rw [tuR_yes hG, listD_gD] at h
    have hok : okA A := by
      unfold tuG at hG
      simp only [Bool.and_eq_true] at hG
      exact hG.1.1
    change itW author t (tuM (txt A) t) (cb (txt A) t) (itD author (cb (txt A) t) (tuN (txt A) t) A) = some B at h
    have hb := cb_le (txt A) t
    have he := ce_le (txt A) t (cb (txt A) t)
    have h1 : (bl (txt A)).take (cb (txt A) t) = (bl t).take (cb (txt A) t) := cbF_same _ 0 rfl
    have h2 : (bl (txt A)).drop ((txt A).size - ce (txt A) t (cb (txt A) t)) = (bl t).drop (t.size - ce (txt A) t (cb (txt A) t)) := by
      refine ceF_same _ 0 ?_
      rw [Nat.sub_zero, Nat.sub_zero, List.drop_of_length_le (by rw [bl_len]; exact Nat.le_refl _), List.drop_of_length_le (by rw [bl_len]; exact Nat.le_refl _)]
    have hself : txt A = t → cb (txt A) t = (txt A).size ∧ (txt A).size = t.size := fun e => by
      subst e
      exact ⟨cbF_self _ 0 rfl, rfl⟩
    obtain ⟨n, hn⟩ : ∃ n, n = tuN (txt A) t := ⟨_, rfl⟩
    obtain ⟨m, hm⟩ : ∃ m, m = tuM (txt A) t := ⟨_, rfl⟩
    rw [← hn, ← hm] at h
    unfold tuN at hn
    unfold tuM at hm
    generalize hbb : cb (txt A) t = b at *
    generalize hee : ce (txt A) t b = e at *
    cases hD : itD author (b : Int) n A with
    | none =>
      rw [hD] at h
      cases h
    | some B1 =>
      rw [hD] at h
      obtain ⟨o1, ⟨C1, rfl, hC1⟩, ht1⟩ := itD_text n A B1 hok (by omega) hD
      have hl1 : (txt (A ++ C1)).size = b + e := by
        rw [← bl_len, ht1, List.length_append, List.length_take, List.length_drop, bl_len]
        omega
      obtain ⟨o2, ⟨C2, rfl, hC2⟩, ht2⟩ := itI_text m b (A ++ C1) B o1 (by omega) (by omega) h
      refine ⟨o2, bl_inj ?_, ⟨C1 ++ C2, by simp⟩, fun ee => ?_⟩
      · have hd := cut_drop (M := (bl (txt A)).drop (b + n)) (k := 0) (show b ≤ (bl (txt A)).length by rw [bl_len]; omega)
        rw [Nat.add_zero, List.drop_zero] at hd
        rw [ht2, ht1, cut_take (by rw [bl_len]; omega), hd, h1, show b + n = (txt A).size - e by omega, h2, show t.size - e = b + m by omega, ← List.drop_drop, List.append_assoc, List.take_append_drop, List.take_append_drop]
      · obtain ⟨q1, q2⟩ := hself ee
        have z1 : C1 = [] := List.eq_nil_of_length_eq_zero (by omega)
        have z2 : C2 = [] := List.eq_nil_of_length_eq_zero (by omega)
        rw [z1, z2, List.append_nil, List.append_nil]
theorem itD_good {author : Int} {b : Int} : ∀ (k : Nat) (A B : List Ev), Good A → itD author b k A = some B → Good B := by
  intro k
  induction k with
  | zero => intro A B h hs; obtain rfl := Option.some.inj (show some A = some B from hs); exact h
  | succ k ih =>
    intro A B h hs
    cases h1 : stD author b A with
    | none => rw [itD_no h1] at hs; cases hs
    | some B1 =>
      rw [itD_yes h1] at hs
      exact ih B1 B (stD_some h h1).1 hs
theorem itI_good {author : Int} {t : ByteArray} (ht : t.size ≤ 100) : ∀ (k i : Nat) (A B : List Ev), Good A → itI author t k i A = some B → Good B := by
  intro k
  induction k with
  | zero => intro i A B h hs; obtain rfl := Option.some.inj (show some A = some B from hs); exact h
  | succ k ih =>
    intro i A B h hs
    cases h1 : stI author i (t.extract i (i + 1)) A with
    | none => rw [itI_no h1] at hs; cases hs
    | some B1 =>
      rw [itI_yes h1] at hs
      exact ih (i + 1) B1 B (stI_some (by rw [ByteArray.size_extract]; omega) h h1).1 hs
theorem tu_good {A B : List Ev} {author : Int} {t : ByteArray} (hA : Good A) (ht : t.size ≤ 100) (h : tuR (gD A) A.length author t = some B) : Good B := by
  cases hG : tuG (gD A) A.length author t with
  | false => rw [tuR_no hG] at h; cases h
  | true =>
    rw [tuR_yes hG, listD_gD] at h
    cases hD : itD author (cb (textR (gD A) A.length) t) (tuN (textR (gD A) A.length) t) A with
    | none => rw [hD] at h; cases h
    | some B1 =>
      rw [hD] at h
      exact itI_good ht _ _ B1 B (itD_good _ A B1 hA hD) h
end Go.Proofs.Ytjfciokpnhnhbaa
