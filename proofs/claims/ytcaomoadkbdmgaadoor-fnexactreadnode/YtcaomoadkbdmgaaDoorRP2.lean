/-
  Both readers take the same texts and give the same node. No condition.
-/
import Derived.Test.YtcaomoadkbdmgaaDoorRP
namespace Go.Proofs.YtcaomoadkbdmgaaDoor
open Go.RowKit
set_option linter.unusedVariables false

theorem clean_of {s : ByteArray} (h : ∀ i, i < s.size → bt s i ≠ 10) : (10 : UInt8) ∉ s.data.toList := by
  intro hm
  obtain ⟨i, hi, e⟩ := List.mem_iff_getElem.1 hm
  have hb := bt_of_byte (s := s) (i := i) (b := 10) (by rw [List.getElem?_eq_getElem hi, e])
  exact h i hb.1 hb.2
theorem decB_clean (n : Nat) : (10 : UInt8) ∉ (decB n).data.toList := by
  have hd : ∀ c : Int, 48 ≤ c → c ≤ 57 → (10 : UInt8) ∉ (dgI c).data.toList := by
    intro c h1 h2 hm
    have : (10 : UInt8) = UInt8.ofNat c.toNat := by simpa [dgI] using hm
    have := congrArg UInt8.toNat this
    rw [UInt8.toNat_ofNat'] at this
    have h3 : c.toNat % 2 ^ 8 = c.toNat := Nat.mod_eq_of_lt (by omega)
    rw [h3] at this
    have h4 : (10 : UInt8).toNat = 10 := rfl
    omega
  induction n using Nat.strongRecOn with
  | ind n ih =>
    by_cases h : n < 10
    · rw [decB_one h]; exact hd _ (by omega) (by omega)
    · rw [decB_more h, ByteArray.data_append, Array.toList_append]
      intro hm
      rcases List.mem_append.1 hm with h1 | h1
      · exact ih (n / 10) (by omega) h1
      · exact hd _ (by omega) (by omega) h1
theorem plain_clean {s : ByteArray} (h : plainB s = true) : (10 : UInt8) ∉ s.data.toList := by
  unfold plainB at h
  rw [Bool.and_eq_true] at h
  refine clean_of fun i hi e => ?_
  have := h.2
  unfold allB at this
  rw [List.all_eq_true] at this
  have := this i (List.mem_range.2 hi)
  rw [e] at this
  simp [signB] at this
theorem id_clean {s : ByteArray} (h : idB s = true) : (10 : UInt8) ∉ s.data.toList := by
  unfold idB at h
  rw [Bool.and_eq_true] at h
  refine clean_of fun i hi e => ?_
  have := h.2
  unfold allB at this
  rw [List.all_eq_true] at this
  have := this i (List.mem_range.2 hi)
  rw [e] at this
  simp [hexB] at this
theorem node_clean {a s k : Int} {key text : ByteArray} {S : Nat → ByteArray} {len : Nat} (h : nodeB a s k key text S len = true) : (10 : UInt8) ∉ key.data.toList ∧ (10 : UInt8) ∉ text.data.toList ∧ ∀ i, i < len → (10 : UInt8) ∉ (S i).data.toList := by
  unfold nodeB at h
  simp only [Bool.and_eq_true] at h
  obtain ⟨⟨⟨⟨⟨h1, h2⟩, h3⟩, h4⟩, h5⟩, h6⟩ := h
  refine ⟨plain_clean h3, plain_clean h4, fun i hi => ?_⟩
  unfold idsB at h6
  simp only [Bool.and_eq_true, decide_eq_true_eq] at h6
  have := h6.2
  unfold allB at this
  rw [List.all_eq_true] at this
  exact id_clean (this i (List.mem_range.2 hi))
theorem node_congr {a s k : Int} {key text : ByteArray} {S S' : Nat → ByteArray} {len : Nat} (h : ∀ i, i < len → S i = S' i) : nodeB a s k key text S len = nodeB a s k key text S' len := by
  have h1 : riseB S len = riseB S' len := by
    unfold riseB
    rw [Bool.eq_iff_iff, List.all_eq_true, List.all_eq_true]
    constructor
    · intro hh x hx
      have hl := List.mem_range.1 hx
      have := hh x hx
      unfold upB at this ⊢
      rw [← h x hl, ← h (x - 1) (by omega)]
      exact this
    · intro hh x hx
      have hl := List.mem_range.1 hx
      have := hh x hx
      unfold upB at this ⊢
      rw [h x hl, h (x - 1) (by omega)]
      exact this
  have h2 : allB (fun k => idB (S k)) len = allB (fun k => idB (S' k)) len := by
    unfold allB
    rw [Bool.eq_iff_iff, List.all_eq_true, List.all_eq_true]
    constructor
    · intro hh x hx
      have hl := List.mem_range.1 hx
      have := hh x hx
      rw [← h x hl]
      exact this
    · intro hh x hx
      have hl := List.mem_range.1 hx
      have := hh x hx
      rw [h x hl]
      exact this
  unfold nodeB idsB
  rw [h1, h2]

/-- a text by its values -/
def TextOf (s a b k key text : ByteArray) (L : List ByteArray) : Prop :=
  s.data.toList = lineL wAuthor.data.toList a.data.toList ++ (lineL wSeq.data.toList b.data.toList ++ (lineL wKind.data.toList k.data.toList ++ (lineL wKey.data.toList key.data.toList ++ (lineL wText.data.toList text.data.toList ++ upsL L))))
structure Clean (a b k key text : ByteArray) (L : List ByteArray) : Prop where
  a : (10 : UInt8) ∉ a.data.toList
  b : (10 : UInt8) ∉ b.data.toList
  k : (10 : UInt8) ∉ k.data.toList
  key : (10 : UInt8) ∉ key.data.toList
  text : (10 : UInt8) ∉ text.data.toList
  ups : ∀ u, u ∈ L → (10 : UInt8) ∉ u.data.toList

theorem upsL_len : ∀ L : List ByteArray, L.length ≤ (upsL L).length
  | [] => Nat.le_refl _
  | u :: L => by
    have := upsL_len L
    show L.length + 1 ≤ (lineL _ _ ++ upsL L).length
    rw [List.length_append]
    simp only [lineL, List.length_append, List.length_cons]
    omega
theorem run_all {s a b k key text : ByteArray} {L : List ByteArray} (h : TextOf s a b k key text L) (c : Clean a b k key text L) :
    run (s.data.toList.length + 1) s.data.toList pnZ = some ⟨(rdec a).1, (rdec b).1, (rdec k).1, key, text, L⟩ := by
  have hl : L.length + 6 ≤ s.data.toList.length + 1 := by
    rw [h]
    have := upsL_len L
    simp only [lineL, List.length_append, List.length_cons]
    omega
  have hr : run (L.length + 1 + 1 + 1 + 1 + 1 + 1) s.data.toList pnZ = some ⟨(rdec a).1, (rdec b).1, (rdec k).1, key, text, L⟩ := by
    rw [h, run_line (by decide) (by decide) c.a]
    have s1 : step pnZ (wAuthor.data.toList ++ 32 :: a.data.toList) = ⟨(rdec a).1, 0, 0, ⟨#[]⟩, ⟨#[]⟩, []⟩ := by
      unfold step
      rw [step_word (by decide)]
      simp [bs_data, pnZ]
    rw [s1, run_line (by decide) (by decide) c.b]
    have s2 : step ⟨(rdec a).1, 0, 0, ⟨#[]⟩, ⟨#[]⟩, []⟩ (wSeq.data.toList ++ 32 :: b.data.toList) = ⟨(rdec a).1, (rdec b).1, 0, ⟨#[]⟩, ⟨#[]⟩, []⟩ := by
      unfold step
      rw [step_word (by decide)]
      simp [bs_data]
    rw [s2, run_line (by decide) (by decide) c.k]
    have s3 : step ⟨(rdec a).1, (rdec b).1, 0, ⟨#[]⟩, ⟨#[]⟩, []⟩ (wKind.data.toList ++ 32 :: k.data.toList) = ⟨(rdec a).1, (rdec b).1, (rdec k).1, ⟨#[]⟩, ⟨#[]⟩, []⟩ := by
      unfold step
      rw [step_word (by decide)]
      simp [bs_data]
    rw [s3, run_line (by decide) (by decide) c.key]
    have s4 : step ⟨(rdec a).1, (rdec b).1, (rdec k).1, ⟨#[]⟩, ⟨#[]⟩, []⟩ (wKey.data.toList ++ 32 :: key.data.toList) = ⟨(rdec a).1, (rdec b).1, (rdec k).1, key, ⟨#[]⟩, []⟩ := by
      unfold step
      rw [step_word (by decide)]
      simp [bs_data]
    rw [s4, run_line (by decide) (by decide) c.text]
    have s5 : step ⟨(rdec a).1, (rdec b).1, (rdec k).1, key, ⟨#[]⟩, []⟩ (wText.data.toList ++ 32 :: text.data.toList) = ⟨(rdec a).1, (rdec b).1, (rdec k).1, key, text, []⟩ := by
      unfold step
      rw [step_word (by decide)]
      simp [bs_data]
    rw [s5, run_ups L _ c.ups]
    simp
  have := run_mono _ _ _ _ (s.data.toList.length + 1 - (L.length + 6)) hr
  rw [show L.length + 1 + 1 + 1 + 1 + 1 + 1 + (s.data.toList.length + 1 - (L.length + 6)) = s.data.toList.length + 1 by omega] at this
  exact this
theorem impl_all {s a b k key text : ByteArray} {L : List ByteArray} (h : TextOf s a b k key text L) (c : Clean a b k key text L) :
    valV s wAuthor = a ∧ valV (restN s) wSeq = b ∧ valV (restN (restN s)) wKind = k ∧ keyR s = key ∧ txtR s = text ∧ (r5R s).data.toList = upsL L ∧ ((rdec a).2 = true → (rdec b).2 = true → (rdec k).2 = true → f5R s = false) := by
  obtain ⟨a1, a2, a3⟩ := val_line (r := s) (word := wAuthor) h (by decide) c.a
  obtain ⟨b1, b2, b3⟩ := val_line (r := restN s) (word := wSeq) (by rw [a3, bs_list]) (by decide) c.b
  obtain ⟨k1, k2, k3⟩ := val_line (r := restN (restN s)) (word := wKind) (by rw [b3, bs_list]) (by decide) c.k
  obtain ⟨y1, y2, y3⟩ := val_line (r := restN (restN (restN s))) (word := wKey) (by rw [k3, bs_list]) (by decide) c.key
  obtain ⟨t1, t2, t3⟩ := val_line (r := restN (restN (restN (restN s)))) (word := wText) (by rw [y3, bs_list]) (by decide) c.text
  rw [bs_data] at a1 b1 k1 y1 t1
  refine ⟨a1, b1, k1, y1, t1, by unfold r5R; rw [t3, bs_list], fun ha hb hk => ?_⟩
  unfold f5R numF
  rw [a1, b1, k1, ha, hb, hk, a2, b2, k2, y2, t2]
  rfl
theorem impl_back {s : ByteArray} (h : f5R s = false) : s.data.toList = lineL wAuthor.data.toList (valV s wAuthor).data.toList ++ (lineL wSeq.data.toList (valV (restN s) wSeq).data.toList ++ (lineL wKind.data.toList (valV (restN (restN s)) wKind).data.toList ++ (lineL wKey.data.toList (keyR s).data.toList ++ (lineL wText.data.toList (txtR s).data.toList ++ (r5R s).data.toList)))) ∧
    (rdec (valV s wAuthor)).2 = true ∧ (rdec (valV (restN s) wSeq)).2 = true ∧ (rdec (valV (restN (restN s)) wKind)).2 = true := by
  unfold f5R at h
  obtain ⟨h, t1⟩ := val_back h
  obtain ⟨h, y1⟩ := val_back h
  unfold numF at h
  rw [Bool.or_eq_false_iff] at h
  obtain ⟨h, k2⟩ := h
  obtain ⟨h, k1⟩ := val_back h
  rw [Bool.or_eq_false_iff] at h
  obtain ⟨h, b2⟩ := h
  obtain ⟨h, b1⟩ := val_back h
  rw [Bool.or_eq_false_iff] at h
  obtain ⟨h, a2⟩ := h
  obtain ⟨h, a1⟩ := val_back h
  refine ⟨?_, by simpa using a2, by simpa using b2, by simpa using k2⟩
  conv => lhs; rw [a1, b1, k1, y1, t1]
  rfl

/-- the specification takes s and gives p -/
def Good (s : ByteArray) (p : PN) : Prop := run (s.data.toList.length + 1) s.data.toList pnZ = some p ∧ s.toList ≠ [] ∧ textR p.a p.s p.k p.key p.text p.S p.ups.length = s
theorem ups_range (p : PN) : (List.range p.ups.length).map p.S = p.ups := by
  apply List.ext_getElem
  · simp
  · intro i h1 h2
    simp [PN.S, List.getD_eq_getElem?_getD, List.getElem?_eq_getElem h2]
theorem S_at (p : PN) (i : Nat) (h : i < p.ups.length) : p.S i = p.ups[i] := by
  simp [PN.S, List.getD_eq_getElem?_getD, List.getElem?_eq_getElem h]

theorem textOf_node {a s k : Nat} {key text t : ByteArray} {S : Nat → ByteArray} {len : Nat} (h : upsB (headB a s k key text) S len = t) : TextOf t (decB a) (decB s) (decB k) key text ((List.range len).map S) := by
  unfold TextOf
  rw [← h, upsB_list, headB_list]
  simp only [List.append_assoc]

/-- where the specification takes a text, the program takes it, and gives the same -/
theorem good_impl {s : ByteArray} {p : PN} (h : Good s p) (j : Nat) (hg : ∀ i, i < j → goes (stU (r5R s) (f5R s) i) = true) (hj : goes (stU (r5R s) (f5R s) j) = false) :
    okR s j = true ∧ p.a = (rdec (valV s wAuthor)).1 ∧ p.s = (rdec (valV (restN s) wSeq)).1 ∧ p.k = (rdec (valV (restN (restN s)) wKind)).1 ∧ p.key = keyR s ∧ p.text = txtR s ∧ p.ups.length = j ∧ ∀ i, i < j → p.S i = upR s i := by
  obtain ⟨h1, h2, h3⟩ := h
  unfold textR at h3
  split at h3
  · rename_i hn
    have hT := textOf_node h3
    rw [ups_range] at hT
    obtain ⟨ra, rs, rk, _⟩ := node_right hn
    obtain ⟨c1, c2, c3⟩ := node_clean hn
    have hups : ∀ u, u ∈ p.ups → (10 : UInt8) ∉ u.data.toList := by
      intro u hu
      obtain ⟨i, hi, e⟩ := List.mem_iff_getElem.1 hu
      have := c3 i hi
      rw [S_at p i hi, e] at this
      exact this
    have hC : Clean (decB p.a.toNat) (decB p.s.toNat) (decB p.k.toNat) p.key p.text p.ups := ⟨decB_clean _, decB_clean _, decB_clean _, c1, c2, hups⟩
    have hr := run_all hT hC
    rw [h1] at hr
    have hp := Option.some.inj hr
    have ea : p.a = (rdec (decB p.a.toNat)).1 := congrArg PN.a hp
    have es : p.s = (rdec (decB p.s.toNat)).1 := congrArg PN.s hp
    have ek : p.k = (rdec (decB p.k.toNat)).1 := congrArg PN.k hp
    obtain ⟨v1, v2, v3, v4, v5, v6, v7⟩ := impl_all hT hC
    have hf : f5R s = false := v7 (rdec_snd (by rw [← ea]; omega)) (rdec_snd (by rw [← es]; omega)) (rdec_snd (by rw [← ek]; omega))
    rw [hf] at hg hj
    have hlen : p.ups.length = j := by
      rcases Nat.lt_trichotomy p.ups.length j with hl | hl | hl
      · have := hg _ hl
        rw [goes_line v6 hups _ (Nat.le_refl _)] at this
        simp at this
      · exact hl
      · rw [goes_line v6 hups _ (by omega)] at hj
        simp at hj
        omega
    have hu : ∀ i, i < j → p.S i = upR s i := by
      intro i hi
      unfold upR
      rw [hf, stU_val v6 hups i (by omega), S_at p i (by omega)]
    refine ⟨?_, by rw [v1]; exact ea, by rw [v2]; exact es, by rw [v3]; exact ek, v4.symm, v5.symm, hlen, hu⟩
    unfold okR
    rw [v1, v2, v3, v4, v5, ← ea, ← es, ← ek, hf, stU_line v6 hups j (by omega), ← node_congr hu, ← hlen, hn]
    rfl
  · exact absurd (by rw [← h3]; exact ByteArray.toList_eq _) h2
/-- where the program takes a text, the specification takes it -/
theorem impl_good {s : ByteArray} (j : Nat) (hj : goes (stU (r5R s) (f5R s) j) = false) (h : okR s j = true) : ∃ p, Good s p := by
  unfold okR at h
  rw [Bool.and_eq_true, Bool.not_eq_true'] at h
  obtain ⟨hb, hn⟩ := h
  obtain ⟨hf, hu⟩ := stU_back _ _ _ hb
  obtain ⟨hs, d1, d2, d3⟩ := impl_back hf
  have he : (stU (r5R s) (f5R s) j).1.data.toList = [] := by
    unfold goes at hj
    rw [hb, ByteArray.toList_eq] at hj
    simpa using hj
  rw [he, List.append_nil] at hu
  have hT : TextOf s (valV s wAuthor) (valV (restN s) wSeq) (valV (restN (restN s)) wKind) (keyR s) (txtR s) ((List.range j).map (upR s)) := by
    unfold TextOf
    rw [hs, hu]
    rfl
  obtain ⟨c1, c2, c3⟩ := node_clean hn
  have hd : ∀ {t : ByteArray}, (rdec t).2 = true → (10 : UInt8) ∉ t.data.toList := fun {t} h => by
    rw [← rdec_dec h]; exact decB_clean _
  have hC : Clean (valV s wAuthor) (valV (restN s) wSeq) (valV (restN (restN s)) wKind) (keyR s) (txtR s) ((List.range j).map (upR s)) := ⟨hd d1, hd d2, hd d3, c1, c2, fun u hu => by
    obtain ⟨i, hi, e⟩ := List.mem_map.1 hu
    rw [← e]
    exact c3 i (List.mem_range.1 hi)⟩
  refine ⟨_, run_all hT hC, ?_, ?_⟩
  · rw [ByteArray.toList_eq, hT]
    simp [lineL]
  · have hS : ∀ i, i < j → PN.S ⟨(rdec (valV s wAuthor)).1, (rdec (valV (restN s) wSeq)).1, (rdec (valV (restN (restN s)) wKind)).1, keyR s, txtR s, (List.range j).map (upR s)⟩ i = upR s i := by
      intro i hi
      rw [S_at _ i (by simpa using hi)]
      simp
    unfold textR
    simp only [List.length_map, List.length_range]
    rw [node_congr hS, if_pos hn]
    apply ByteArray.ext
    apply Array.ext'
    have hm := List.map_congr_left (l := List.range j) (fun i hi => hS i (List.mem_range.1 hi))
    rw [upsB_list, headB_list, hm, rdec_dec d1, rdec_dec d2, rdec_dec d3, hT]
    simp only [List.append_assoc]
end Go.Proofs.YtcaomoadkbdmgaaDoor
