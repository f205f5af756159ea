/-
  Lines, plainly: both readers at a line, back and forth; a number's text. No condition.
-/
import Derived.Test.YtcaomoadkbdmgaaDoorSRead
namespace Go.Proofs.YtcaomoadkbdmgaaDoor
open Go.RowKit
set_option linter.unusedVariables false

/-- a line as bytes -/
def lineL (w v : List UInt8) : List UInt8 := w ++ 32 :: (v ++ [10])
theorem lineB_list (w v : ByteArray) : (lineB w v).data.toList = lineL w.data.toList v.data.toList := by
  unfold lineB lineL
  simp

theorem cut_cutL : ∀ l : List UInt8, Lib.cut l [10] = cutL 10 l
  | [] => by decide
  | x :: l => by
    have ih := cut_cutL l
    have hg := Lib.index_ge l [10]
    by_cases hx : x = 10
    · subst hx
      have h0 : Lib.index (10 :: l) [10] = 0 := by unfold Lib.index; simp
      unfold Lib.cut
      rw [h0]
      simp [cutL]
    · have hi : Lib.index (x :: l) [10] = if Lib.index l [10] == -1 then -1 else Lib.index l [10] + 1 := by
        conv => lhs; unfold Lib.index
        have : ([10].isPrefixOf (x :: l)) = false := by
          simp only [List.isPrefixOf, Bool.and_true, beq_eq_false_iff_ne]
          exact fun e => hx e.symm
        rw [this]
        rfl
      rw [cutL, if_neg hx, ← ih]
      unfold Lib.cut
      rw [hi]
      by_cases h1 : Lib.index l [10] = -1
      · rw [h1]; simp
      · obtain ⟨n, hn⟩ := Int.eq_ofNat_of_zero_le (show 0 ≤ Lib.index l [10] by omega)
        have h2 : ((n : Int) == -1) = false := by rw [beq_eq_false_iff_ne]; omega
        have h3 : ((n : Int) + 1).toNat = n + 1 := by omega
        have h4 : (0 : Int) ≤ (n : Int) + 1 := by omega
        rw [hn, h2]
        simp [h3, h4]
theorem cutL_back (c : UInt8) : ∀ l : List UInt8, (cutL c l).2.2 = true → l = (cutL c l).1 ++ c :: (cutL c l).2.1
  | [], h => by simp [cutL] at h
  | x :: l, h => by
    by_cases hx : x = c
    · subst hx; simp [cutL]
    · rw [cutL, if_neg hx] at h ⊢
      have := cutL_back c l h
      simp only [List.cons_append]
      rw [← this]

theorem val_back {r word : ByteArray} {f : Bool} (h : valF r word f = false) : f = false ∧ r.data.toList = lineL word.data.toList (valV r word).data.toList ++ (restN r).data.toList := by
  unfold valF at h
  simp only [Bool.or_eq_false_iff, Bool.not_eq_false'] at h
  obtain ⟨⟨hf, he⟩, hn⟩ := h
  refine ⟨hf, ?_⟩
  have hc : cutN r = cutL 10 r.data.toList := cut_cutL _
  rw [hc] at he
  have hb := cutL_back 10 _ he
  have hv : (valV r word).data.toList = (cutN r).1.drop (word.data.toList ++ [32]).length := by
    unfold valV
    rw [bs_list]
    unfold Lib.trimPrefix
    rw [if_pos (show Lib.hasPrefix (cutN r).1 (word.data.toList ++ [32]) = true from hn)]
  have hp : (word.data.toList ++ [32]) <+: (cutN r).1 := List.isPrefixOf_iff_prefix.1 hn
  obtain ⟨t, ht⟩ := hp
  have hv2 : (valV r word).data.toList = t := by rw [hv, ← ht, List.drop_left]
  have hr : (restN r).data.toList = (cutN r).2.1 := by unfold restN; rw [bs_list]
  rw [hv2, hr]
  rw [hc] at ht ⊢
  conv => lhs; rw [hb, ← ht]
  unfold lineL
  simp
theorem val_line {r word : ByteArray} {v rest : List UInt8} (h : r.data.toList = lineL word.data.toList v ++ rest) (hw : 10 ∉ word.data.toList) (hv : 10 ∉ v) : valV r word = bs v ∧ (∀ f, valF r word f = f) ∧ restN r = bs rest := by
  have hc : cutN r = (word.data.toList ++ 32 :: v, rest, true) := by
    show Lib.cut _ [10] = _
    rw [cut_cutL, h]
    have e : lineL word.data.toList v ++ rest = (word.data.toList ++ 32 :: v) ++ 10 :: rest := by unfold lineL; simp
    rw [e]
    exact cutL_yes 10 rest _ (by simp [hw, hv])
  have hp : Lib.hasPrefix (word.data.toList ++ 32 :: v) (word.data.toList ++ [32]) = true := List.isPrefixOf_iff_prefix.2 ⟨v, by simp⟩
  refine ⟨?_, fun f => ?_, ?_⟩
  · unfold valV Lib.trimPrefix
    rw [hc, if_pos hp]
    show bs ((word.data.toList ++ 32 :: v).drop _) = _
    rw [show word.data.toList ++ 32 :: v = (word.data.toList ++ [32]) ++ v by simp, List.drop_left]
  · unfold valF valN
    rw [hc]
    show (f || !true || !(Lib.hasPrefix (word.data.toList ++ 32 :: v) (word.data.toList ++ [32]))) = f
    rw [hp]
    simp
  · unfold restN
    rw [hc]

/-- the lines of the ups -/
def upsL : List ByteArray → List UInt8
  | [] => []
  | u :: L => lineL [117, 112] u.data.toList ++ upsL L
theorem upsL_append (A B : List ByteArray) : upsL (A ++ B) = upsL A ++ upsL B := by
  induction A with
  | nil => rfl
  | cons u A ih => show lineL _ _ ++ upsL (A ++ B) = (lineL _ _ ++ upsL A) ++ upsL B; rw [ih, List.append_assoc]
theorem upsB_list (H : ByteArray) (S : Nat → ByteArray) : ∀ j, (upsB H S j).data.toList = H.data.toList ++ upsL ((List.range j).map S)
  | 0 => by simp [upsB, upsL]
  | j + 1 => by
    unfold upsB
    rw [ByteArray.data_append, Array.toList_append, upsB_list H S j, lineB_list, List.range_succ, List.map_append, upsL_append, List.append_assoc]
    simp [upsL]
theorem headB_list (a s k : Nat) (key text : ByteArray) : (headB a s k key text).data.toList = lineL wAuthor.data.toList (decB a).data.toList ++ (lineL wSeq.data.toList (decB s).data.toList ++ (lineL wKind.data.toList (decB k).data.toList ++ (lineL wKey.data.toList key.data.toList ++ lineL wText.data.toList text.data.toList))) := by
  unfold headB
  simp only [ByteArray.data_append, Array.toList_append, lineB_list, List.append_assoc]

theorem stU_back (r : ByteArray) (f : Bool) : ∀ j, (stU r f j).2 = false → f = false ∧ r.data.toList = upsL ((List.range j).map fun i => valV (stU r f i).1 wUp) ++ (stU r f j).1.data.toList
  | 0, h => ⟨h, by simp [upsL, stU]⟩
  | j + 1, h => by
    have hv := val_back (show valF (stU r f j).1 wUp (stU r f j).2 = false from h)
    obtain ⟨hf, he⟩ := stU_back r f j hv.1
    refine ⟨hf, ?_⟩
    rw [List.range_succ, List.map_append, upsL_append]
    conv => lhs; rw [he, hv.2]
    show _ = _ ++ (restN (stU r f j).1).data.toList
    simp [upsL, List.append_assoc]
theorem stU_line {r : ByteArray} {L : List ByteArray} (h : r.data.toList = upsL L) (hL : ∀ u, u ∈ L → 10 ∉ u.data.toList) : ∀ i, i ≤ L.length → stU r false i = (bs (upsL (L.drop i)), false)
  | 0, _ => by
    show (r, false) = _
    rw [List.drop_zero, ← h, bs_data]
  | i + 1, hi => by
    have ih := stU_line h hL i (by omega)
    have hd : L.drop i = L[i] :: L.drop (i + 1) := List.drop_eq_getElem_cons (by omega)
    have hl := val_line (r := bs (upsL (L.drop i))) (word := wUp) (v := L[i].data.toList) (rest := upsL (L.drop (i + 1))) (by rw [bs_list, hd]; rfl) (by decide) (hL _ (List.getElem_mem _))
    show (restN (stU r false i).1, valF (stU r false i).1 wUp (stU r false i).2) = _
    rw [ih]
    exact Prod.ext hl.2.2 (hl.2.1 false)
theorem stU_val {r : ByteArray} {L : List ByteArray} (h : r.data.toList = upsL L) (hL : ∀ u, u ∈ L → 10 ∉ u.data.toList) (i : Nat) (hi : i < L.length) : valV (stU r false i).1 wUp = L[i] := by
  have hd : L.drop i = L[i] :: L.drop (i + 1) := List.drop_eq_getElem_cons hi
  have hl := val_line (r := bs (upsL (L.drop i))) (word := wUp) (v := L[i].data.toList) (rest := upsL (L.drop (i + 1))) (by rw [bs_list, hd]; rfl) (by decide) (hL _ (List.getElem_mem _))
  rw [stU_line h hL i (by omega)]
  exact hl.1.trans (bs_data _)
theorem goes_line {r : ByteArray} {L : List ByteArray} (h : r.data.toList = upsL L) (hL : ∀ u, u ∈ L → 10 ∉ u.data.toList) (i : Nat) (hi : i ≤ L.length) : goes (stU r false i) = decide (i < L.length) := by
  rw [stU_line h hL i hi]
  unfold goes
  rw [ByteArray.toList_eq, bs_list]
  by_cases hl : i < L.length
  · have hd : L.drop i = L[i] :: L.drop (i + 1) := List.drop_eq_getElem_cons hl
    rw [hd]
    simp [upsL, lineL, hl]
  · have : i = L.length := by omega
    subst this
    simp [upsL]

theorem run_line {word : List UInt8} {v rest : List UInt8} (h1 : 10 ∉ word) (h2 : 32 ∉ word) (h3 : 10 ∉ v) (f : Nat) (p : PN) : run (f + 1) (lineL word v ++ rest) p = run f rest (step p (word ++ 32 :: v)) := by
  have e : lineL word v ++ rest = (word ++ 32 :: v) ++ 10 :: rest := by unfold lineL; simp
  have hc := cutL_yes 10 rest (word ++ 32 :: v) (by simp [h1, h3])
  rw [run, if_neg (by rw [e]; simp), e, hc, if_pos rfl]
theorem step_word {word v : List UInt8} (h2 : 32 ∉ word) : cutL 32 (word ++ 32 :: v) = (word, v, true) := cutL_yes 32 v word h2
theorem run_ups : ∀ (L : List ByteArray) (p : PN), (∀ u, u ∈ L → 10 ∉ u.data.toList) → run (L.length + 1) (upsL L) p = some { p with ups := p.ups ++ L }
  | [], p, _ => by simp [run, upsL]
  | u :: L, p, h => by
    show run (L.length + 1 + 1) (lineL [117, 112] u.data.toList ++ upsL L) p = _
    rw [run_line (by decide) (by decide) (h u List.mem_cons_self)]
    have hs : step p ([117, 112] ++ 32 :: u.data.toList) = { p with ups := p.ups ++ [u] } := by
      unfold step
      rw [step_word (by decide)]
      simp [bs_data]
    rw [hs, run_ups L _ (fun x hx => h x (List.mem_cons_of_mem _ hx))]
    simp
theorem run_mono : ∀ (f : Nat) (l : List UInt8) (p q : PN) (d : Nat), run f l p = some q → run (f + d) l p = some q
  | 0, _, _, _, _, h => by simp [run] at h
  | f + 1, l, p, q, d, h => by
    rw [show f + 1 + d = (f + d) + 1 by omega]
    rw [run] at h ⊢
    by_cases h0 : l = []
    · rw [if_pos h0] at h ⊢; exact h
    · rw [if_neg h0] at h ⊢
      by_cases h1 : (cutL 10 l).2.2 = true
      · rw [if_pos h1] at h ⊢; exact run_mono f _ _ _ d h
      · rw [if_neg h1] at h; cases h

theorem numOf_pos {t : ByteArray} (h0 : bt t 0 ≠ 48) : ∀ k, 1 ≤ k → digsB t 0 k = true → 1 ≤ numOf t 0 k
  | 0, h, _ => by omega
  | 1, _, h => by
    rw [digsB_succ, Bool.and_eq_true] at h
    have := digB_iff.1 h.2
    simp only [Nat.zero_add] at this
    simp only [numOf, Nat.zero_add]
    omega
  | k + 2, _, h => by
    rw [digsB_succ, Bool.and_eq_true] at h
    have ih := numOf_pos h0 (k + 1) (by omega) h.1
    have := digB_iff.1 h.2
    show 1 ≤ 10 * numOf t 0 (k + 1) + (bt t (0 + (k + 1)) - 48)
    omega
theorem dgI_bt {t : ByteArray} {i : Nat} (h : i < t.size) : (dgI (bt t i)).data.toList = [t.data.toList[i]'(by rw [← Lib.size_eq]; exact h)] := by
  have : bt t i = (t[i].toNat : Int) := (bt_in h).symm
  rw [this]
  unfold dgI
  simp
  rfl
theorem dec_num {t : ByteArray} (h0 : 1 < t.size → bt t 0 ≠ 48) : ∀ k, 1 ≤ k → k ≤ t.size → digsB t 0 k = true → (decB (numOf t 0 k).toNat).data.toList = t.data.toList.take k
  | 0, h, _, _ => by omega
  | 1, _, hk, h => by
    rw [digsB_succ, Bool.and_eq_true] at h
    have hd := digB_iff.1 h.2
    simp only [Nat.zero_add] at hd
    have e : numOf t 0 1 = bt t 0 - 48 := by simp [numOf]
    rw [e, decB_one (by omega)]
    rw [show (48 : Int) + ((bt t 0 - 48).toNat : Int) = bt t 0 by omega, dgI_bt (by omega)]
    have hl := Lib.size_eq t
    rw [List.take_add_one, List.take_zero, List.getElem?_eq_getElem (by omega)]
    rfl
  | k + 2, _, hk, h => by
    rw [digsB_succ, Bool.and_eq_true] at h
    have ih := dec_num h0 (k + 1) (by omega) (by omega) h.1
    have hp := numOf_pos (h0 (by omega)) (k + 1) (by omega) h.1
    have hd := digB_iff.1 h.2
    rw [Nat.zero_add] at hd
    have e : numOf t 0 (k + 2) = 10 * numOf t 0 (k + 1) + (bt t (k + 1) - 48) := by
      show 10 * numOf t 0 (k + 1) + (bt t (0 + (k + 1)) - 48) = _
      rw [Nat.zero_add]
    generalize hm : numOf t 0 (k + 1) = m at *
    have hn : ¬ (numOf t 0 (k + 2)).toNat < 10 := by rw [e]; omega
    rw [decB_more hn]
    have e1 : (numOf t 0 (k + 2)).toNat / 10 = m.toNat := by rw [e]; omega
    have e2 : (48 : Int) + ((numOf t 0 (k + 2)).toNat : Int) % 10 = bt t (k + 1) := by rw [e]; omega
    have hl := Lib.size_eq t
    rw [e1, e2, ByteArray.data_append, Array.toList_append, ih, dgI_bt (by omega)]
    conv => rhs; rw [List.take_add_one, List.getElem?_eq_getElem (by omega)]
    rfl
theorem rdec_dec {t : ByteArray} (h : (rdec t).2 = true) : decB (rdec t).1.toNat = t := by
  unfold rdec at h ⊢
  split at h
  · cases h
  · rename_i h1
    split at h
    · rename_i h2
      rw [if_neg h1, if_pos h2]
      apply ByteArray.ext
      apply Array.ext'
      have := dec_num (t := t) (fun h9 e => h1 (.inr (.inr ⟨h9, e⟩))) t.size (by omega) (Nat.le_refl _) h2
      rw [this, List.take_of_length_le (by rw [← Lib.size_eq]; exact Nat.le_refl _)]
    · cases h
theorem rdec_snd {t : ByteArray} (h : (rdec t).1 ≠ 0) : (rdec t).2 = true := by
  unfold rdec at h ⊢
  split
  · rename_i h1; rw [if_pos h1] at h; exact absurd rfl h
  · rename_i h1
    rw [if_neg h1] at h
    split
    · rfl
    · rename_i h2; rw [if_neg h2] at h; exact absurd rfl h
end Go.Proofs.YtcaomoadkbdmgaaDoor
