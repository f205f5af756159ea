/-
  r.known: drawn knowledge: at most eight texts of drawn terms, in a slice of its own. Condition: the code reads as bytes.
-/
import Derived.Test.YtpcbhjejpebogaaDoorDqT
namespace Go.Proofs.YtpcbhjejpebogaaDoor
open Go.RowKit Go.Maps
set_option linter.unusedVariables false

/-- texts of drawn terms -/
def KLow (L : List (List UInt8)) : Prop := ∀ x, x ∈ L → ∃ t : Tr, TD 3 t ∧ t.txt.toList = x
theorem LL_atL (L : List (List UInt8)) : LL (atL L) L.length = L := by
  apply List.ext_getElem
  · rw [LL_len]
  · intro i h1 h2
    rw [LL_len] at h1
    have e := LL_at (atL L) h1
    rw [atL_list] at e
    simp only [List.getD, List.getElem?_eq_getElem h2, Option.getD_some] at e
    rw [List.getElem?_eq_getElem (by rw [LL_len]; exact h1), Option.getD_some] at e
    exact e
theorem KLow.sizes {L : List (List UInt8)} (h : KLow L) : ∀ i, i < L.length → (atL L i).size ≤ 1048576 := by
  intro i hi
  have hm : L.getD i [] ∈ L := by
    simp only [List.getD, List.getElem?_eq_getElem hi, Option.getD_some]
    exact List.getElem_mem hi
  obtain ⟨t, ht, e⟩ := h _ hm
  have h1 := ht.small (by omega)
  rw [← atL_list, ByteArray.toList_eq, ByteArray.toList_eq] at e
  have h2 : t.txt = atL L i := ByteArray.ext (Array.ext' e)
  rw [← h2]
  omega
theorem KLow.put {L : List (List UInt8)} {t : Tr} (h : KLow L) (ht : TD 3 t) : KLow (putL L t.txt.toList) := fun x hx => by
  rcases (putL_mem _ _ _).1 hx with h1 | rfl
  · exact h x h1
  · exact ⟨t, ht, rfl⟩
theorem putL_nonempty (s : List UInt8) (L : List (List UInt8)) : putL L s ≠ [] := fun e => by
  have h : s ∈ putL L s := (putL_mem _ _ _).2 (.inr rfl)
  rw [e] at h
  cases h
theorem OwnS.mut {w w' : World} {base g c R : Nat} {L : List (List UInt8)} (h : OwnS w base g c L) (hM : Mut R w w') (hR : R < base) : OwnS w' base g c L :=
  OwnL.kept (p := fun k => k ≠ R) (v := .slice (some ⟨g, 0, none⟩) L.length c) h ⟨hM.os, hM.tape, hM.output, hM.size, hM.block⟩ (fun b hb => by omega)
theorem Draw.grown {W : World} {a : Option Addr} {len cap R : Nat} {w w' : World} {row : Option Nat} (h : Draw W a len cap R w) (hg : w.grownBy w' row) (hr : ∀ k, row = some k → R < k) : Draw W a len cap R w' := by
  obtain ⟨p, hp, hb⟩ := h.box
  have hN := h.new
  exact ⟨h.bel.grown hg h.bel.size (fun k hk => by have := hr k hk; omega), h.new, p, hp, (hg.block R (lt_of_block hb) (fun e => by have := hr R e.symm; omega)).trans hb⟩
theorem a1_txt : (⟨.inl (1, 1)⟩ : Tr).txt = ⟨#[97, 49]⟩ := by
  rw [Tr.txt]
  decide +kernel

section
variable {W : World} {a : Option Addr} {len cap R : Nat} {Z : Nat → Int}
set_option maxRecDepth 8000 in
set_option maxHeartbeats 8000000 in
theorem drKnown_any (hU : IsU8 W a len cap Z) (w : World) (h : Draw W a len cap R w) :
    Calls Tryd.prog 57 #[.pointer (some ⟨R, 0, none⟩), .int .i64 7] w fun e w' => ∃ g c L, e = .returned (.slice (some ⟨g, 0, none⟩) L.length c) ∧ OwnS w' (R + 1) g c L ∧ L.length ≤ 8 ∧ KLow L ∧ Draw W a len cap R w' := by
  obtain ⟨i0, hi, hz0, hz1, hz2⟩ := info_parts info9
  have hRw : R < w.heap.size := h.lt
  have hD1 : Draw W a len cap R (w.alloc (.cells #[] 9)) := h.alloc _
  have HG1 : Hid ((w.alloc (.cells #[] 9)).heap[w.heap.size]? = some (.cells #[] 9 (0, 0))) := heap_alloc_new w _
  have HTM : Hid (∀ (v : World), Draw W a len cap R v → Calls Tryd.prog 60 #[.pointer (some ⟨R, 0, none⟩), .int .i64 3] v fun e w' => ∃ t : Tr, TD 3 t ∧ e = .returned (.string t.txt) ∧ Draw W a len cap R w' ∧ Mut R v w') := fun v hv => drTerm_any hU 3 (by omega) v hv
  have HRW : Hid (R < w.heap.size) := hRw
  clear h hRw
  go_enter Tryd.func57, Tryd.ntmps57
  go_wp2_with fail
  refine (below_any hU 8 (by omega) (by omega) _ hD1).mono ?_
  rintro e w1 ⟨x, hx0, hx1, rfl, hD2, hM2⟩
  have HO1 : Hid (OwnS w1 (R + 1) w.heap.size 0 []) := by
    show OwnS _ _ _ _ _
    refine ⟨rfl, .inr ⟨w.heap.size, 0, #[], rfl, by have := HRW.out; omega, ?_, Nat.le_refl _, Nat.zero_le _, rfl, rfl⟩⟩
    exact (hM2.block w.heap.size (by simp) (by have := HRW.out; omega)).trans HG1.out
  obtain ⟨n, rfl⟩ : ∃ n : Nat, x = (n : Int) := ⟨x.toNat, by omega⟩
  have hn : n ≤ 7 := by omega
  have HD2 : Hid (Draw W a len cap R w1) := hD2
  clear hD1 hD2 hM2 hx0 hx1
  go_wp2
  go_loopw [5, 6] (fun v i wr => ∃ (k g c : Nat) (L : List (List UInt8)), k ≤ 7 ∧ i = .int .i64 k ∧ v = .slice (some ⟨g, 0, none⟩) L.length c ∧ Hid (OwnS wr (R + 1) g c L ∧ L.length + k ≤ 7 ∧ KLow L) ∧ Draw W a len cap R wr) (fun _ i _ => (intOf i).toNat)
  case atStart => exact ⟨n, w.heap.size, 0, [], hn, rfl, rfl, ⟨HO1.out, by simpa using hn, fun x hx => by cases hx⟩, HD2.out⟩
  case round =>
    obtain ⟨k, g, c, L, hk, rfl, rfl, HL, hD⟩ := hrel
    have HD : Hid (Draw W a len cap R wr) := hD
    clear hD
    by_cases h0 : 0 < k
    · have h0I : (0 : Int) < (k : Int) := by omega
      obtain ⟨m, hm⟩ : ∃ m, m = L.length := ⟨_, rfl⟩
      have HM : Hid (m = L.length) := hm
      rw [← hm]
      clear hm
      go_wp2_with fail
      refine (HTM.out wr HD.out).mono ?_
      rintro e w3 ⟨t, hT, rfl, hD3, hM3⟩
      have HO3 : Hid (OwnS w3 (R + 1) g c L) := HL.out.1.mut hM3 (by omega)
      have HD3 : Hid (Draw W a len cap R w3) := hD3
      have HT : Hid (TD 3 t) := hT
      obtain ⟨X, hX⟩ : ∃ X, X = t.txt := ⟨_, rfl⟩
      have HX : Hid (X = t.txt) := hX
      rw [← hX]
      have HLn : Hid (Calls Tryd.prog 32 #[.slice (some ⟨g, 0, none⟩) m c, .string X] w3 fun e w' => ∃ v, e = .returned (.tuple #[v, .bool (lrB (atL L) m X)]) ∧ OwnL w' w3.heap.size v (lrR (atL L) m X) ∧ Below w3.heap.size w3 w') := by
        rw [HM.out]
        exact specLearned_any g L.length c (atL L) X w3 HO3.out.strs HO3.out.lies.2.1 (by have := HL.out.2.1; omega) HL.out.2.2.sizes (by have := hT.small (by omega); rw [hX]; omega)
      clear hT hD3 hM3 hX
      go_wp2_with fail
      refine HLn.out.mono ?_
      rintro e w4 ⟨v, rfl, ho, hB4⟩
      have HD4 : Hid (Draw W a len cap R w4) := HD3.out.below hB4
      have HO4 : Hid (OwnS w4 (R + 1) g c L) := HO3.out.below hB4
      obtain ⟨b, hb⟩ : ∃ b, b = lrB (atL L) m X := ⟨_, rfl⟩
      rw [← hb]
      cases b with
      | false =>
        clear hb ho hB4
        go_wp2
        go_roundw
        case rel => exact ⟨k - 1, g, c, L, by omega, (by rw [show ((k - 1 : Nat) : Int) = (k : Int) - 1 by omega]), by rw [HM.out], ⟨HO4.out, by have := HL.out.2.1; omega, HL.out.2.2⟩, HD4.out⟩
        case measure => simp [intOf]; omega
      | true =>
        have hr : lrR (atL L) m X = putL L X.toList := by
          unfold lrR
          rw [if_pos hb.symm, HM.out, LL_atL]
        rw [hr] at ho
        have hR4 : R + 1 ≤ w3.heap.size := HD3.out.lt
        obtain ⟨g', c', rfl, hf⟩ := own_form (mono_base ho hR4) (L := putL L X.toList) rfl rfl (fun e => by
          have h1 := ho
          unfold OwnL at h1
          rw [e] at h1
          rcases h1.2 with ⟨_, h2⟩ | ⟨g2, c2, cur, h2, _⟩
          · exact putL_nonempty X.toList L (List.eq_nil_of_length_eq_zero h2)
          · cases h2)
        have HN : Hid (OwnS w4 (R + 1) g' c' (putL L X.toList) ∧ (putL L X.toList).length + (k - 1) ≤ 7 ∧ KLow (putL L X.toList)) := ⟨hf, by have h1 := putL_len X.toList L; have h2 := HL.out.2.1; omega, by rw [HX.out]; exact HL.out.2.2.put HT.out⟩
        clear hb hr ho hB4 hf hR4
        obtain ⟨L2, hL2⟩ : ∃ L2, L2 = putL L X.toList := ⟨_, rfl⟩
        rw [← hL2] at HN ⊢
        clear hL2
        go_wp2
        go_roundw
        case rel => exact ⟨k - 1, g', c', L2, by omega, (by rw [show ((k - 1 : Nat) : Int) = (k : Int) - 1 by omega]), rfl, HN, HD4.out⟩
        case measure => simp [intOf]; omega
    · have hk0 : k = 0 := by omega
      subst hk0
      obtain ⟨m, hm⟩ : ∃ m, m = L.length := ⟨_, rfl⟩
      have HM : Hid (m = L.length) := hm
      rw [← hm]
      have hm7 : m ≤ 7 := by have := HL.out.2.1; omega
      clear hm
      go_wp2_with fail
      refine (once_any hU 30 (by omega) (by omega) wr HD.out).mono ?_
      rintro e w3 ⟨x, rfl, hD3, hM3⟩
      have HO3 : Hid (OwnS w3 (R + 1) g c L) := HL.out.1.mut hM3 (by omega)
      have HD3 : Hid (Draw W a len cap R w3) := hD3
      clear hD3 hM3
      cases x with
      | false =>
        go_wp2
        go_ret
        exact ⟨g, c, L, by rw [HM.out]; rfl, HO3.out, by have := HL.out.2.1; omega, HL.out.2.2, HD3.out⟩
      | true =>
        have HO3' : Hid (w3.ownsRow (R + 1) 9 1 (.slice (some ⟨g, 0, none⟩) m c) m (L.map encStr)) := by
          have h1 := HO3.out
          unfold OwnS at h1
          rw [← HM.out] at h1
          exact h1
        have hc1 : (m + 1 : Nat) ≤ maxLen := by unfold maxLen; omega
        have hc2 : (m + 1) * 16 ≤ 140737488355328 := by omega
        go_wp2_with (at_builtin; refine wpList_append_own _ rfl _ _ 22 rfl (R + 1) 9 i0 (.string ⟨#[]⟩) 1 16 Tryd.underlying22 hi hz0 hz1 hz2 rfl (by decide) _ m _ rfl (HO3'.out.alloc _) ⟨w3.heap.size, 0, none⟩ 1 1 [.string ⟨#[97, 49]⟩] rfl rfl (World.news_of_block (heap_alloc_new _ _)) (fun u hu => by simp at hu; subst hu; rfl) hc1 hc2 (by have := HD3.out.lt; simp; omega) ?_; intro v4 w4 hown4 hgrow4 hnil4)
        obtain ⟨g4, gc4, rfl, hf4⟩ := own_form hown4 (L := L ++ [(⟨.inl (1, 1)⟩ : Tr).txt.toList]) (by rw [List.length_append, HM.out]; rfl) (by rw [List.map_append, List.map_cons, List.map_nil, enc_str, a1_txt]) (fun e => by have := (hnil4.1 e).1; cases this)
        have HD4 : Hid (Draw W a len cap R w4) := (HD3.out.alloc _).grown hgrow4 (fun k hk => by have := (HO3'.out.lt k hk).1; omega)
        go_ret
        exact ⟨g4, gc4, _, rfl, hf4, by rw [List.length_append, ← HM.out]; simp; omega, fun x hx => by
          rcases List.mem_append.1 hx with h1 | h1
          · exact HL.out.2.2 x h1
          · exact ⟨⟨.inl (1, 1)⟩, TD.leaf (.inl rfl) (by omega), (List.mem_singleton.1 h1).symm⟩, HD4.out⟩
end
end Go.Proofs.YtpcbhjejpebogaaDoor
