/-
  What can be made, plainly: it gives nothing more to who learns it; and what is known behind a learning. No condition.
  A key that stands in no drawn term: it can not be made, nor what is sealed by it; with it, it can. No condition.
  DrawCanMake: drawn knowledge, and a text of a term that can be made, or of any. Condition: the code reads as bytes.
  The law FnSecret returns true at every code. Conditions: the code reads as bytes; the table of powers of ten lies.
  The law FnCut returns true at every code. Conditions: the code reads as bytes; the table of powers of ten lies.
-/
import Derived.Test.YtpcbhjejpebogaaDoorOqE
import Derived.Test.YtpcbhjejpebogaaDoorTgL
import Derived.Test.YtpcbhjejpebogaaDoorTgD
import Derived.Test.YtpcbhjejpebogaaDoorLIm
namespace Go.Proofs.YtpcbhjejpebogaaDoor
open Go.RowKit Go.Maps
set_option linter.unusedVariables false

theorem MkT.base {P : Tr → Prop} : ∀ {t : Tr}, P t → MkT P t
  | ⟨.inl (k, n)⟩, h => by rw [MkT]; exact .inl h
  | ⟨.inr (.inl u)⟩, h => by rw [MkT]; exact .inl h
  | ⟨.inr (.inr (.inl (a, b)))⟩, h => by rw [MkT]; exact .inl h
  | ⟨.inr (.inr (.inr (k, n, a)))⟩, h => by rw [MkT]; exact .inl h
theorem MkT.key {P : Tr → Prop} {n : Nat} : MkT P (keyT n) ↔ P (keyT n) := by
  unfold keyT
  rw [MkT]
  exact ⟨fun h => h.elim id (fun h => absurd rfl h), .inl⟩
theorem MkT.congr {P Q : Tr → Prop} (h : ∀ u, Fit u → (P u ↔ Q u)) : ∀ t : Tr, Fit t → (MkT P t ↔ MkT Q t)
  | ⟨.inl (k, n)⟩, hf => by rw [MkT, MkT, h _ hf]
  | ⟨.inr (.inl u)⟩, hf => by rw [MkT, MkT, h _ hf, MkT.congr h u (hf.kid (by simp [Tr.kids]))]
  | ⟨.inr (.inr (.inl (a, b)))⟩, hf => by rw [MkT, MkT, h _ hf, MkT.congr h a (hf.kid (by simp [Tr.kids])), MkT.congr h b (hf.kid (by simp [Tr.kids]))]
  | ⟨.inr (.inr (.inr (k, n, a)))⟩, hf => by rw [MkT, MkT, h _ hf, MkT.congr h a (hf.kid (by simp [Tr.kids])), h _ (fitKey hf.1.2.1)]
theorem MkT.trans {P Q : Tr → Prop} (h : ∀ u, P u → MkT Q u) : ∀ t : Tr, MkT P t → MkT Q t
  | ⟨.inl (k, n)⟩, ht => by
    rw [MkT] at ht
    rcases ht with h1 | h1
    · exact h _ h1
    · rw [MkT]; exact .inr h1
  | ⟨.inr (.inl u)⟩, ht => by
    rw [MkT] at ht
    rcases ht with h1 | h1
    · exact h _ h1
    · rw [MkT]; exact .inr (MkT.trans h u h1)
  | ⟨.inr (.inr (.inl (a, b)))⟩, ht => by
    rw [MkT] at ht
    rcases ht with h1 | h1
    · exact h _ h1
    · rw [MkT]; exact .inr ⟨MkT.trans h a h1.1, MkT.trans h b h1.2⟩
  | ⟨.inr (.inr (.inr (k, n, a)))⟩, ht => by
    rw [MkT] at ht
    rcases ht with h1 | h1
    · exact h _ h1
    · rw [MkT]; exact .inr ⟨MkT.key.1 (h _ h1.1), MkT.trans h a h1.2⟩
/-- what can be made of what is opened is closed -/
theorem MkT.shut {O : Tr → Prop} (hO : Shut O) : Shut (MkT O) := by
  refine ⟨fun t u h => ?_, fun n t h => ?_, fun n t h hk => ?_⟩
  · unfold pairT at h
    rw [MkT] at h
    rcases h with h1 | h1
    · exact ⟨.base (hO.pair t u h1).1, .base (hO.pair t u h1).2⟩
    · exact h1
  · unfold signT at h
    rw [MkT] at h
    rcases h with h1 | h1
    · exact .base (hO.sign n t h1)
    · exact h1.2
  · unfold sealT at h
    rw [MkT] at h
    rcases h with h1 | h1
    · exact .base (hO.sealK n t h1 (MkT.key.1 hk))
    · exact h1.2
theorem opT_fit {S : Nat → ByteArray} {len : Nat} {u : Tr} (hf : Fit u) : OpT S len u.txt.toList ↔ Op (Kn S len) u :=
  ⟨fun ⟨t, h1, h2⟩ => by rw [← txt_inj (op_fit h1) hf h2]; exact h1, fun h => ⟨u, h, rfl⟩⟩
theorem CanT.mk {S : Nat → ByteArray} {len : Nat} {t : Tr} (hf : Fit t) (hq : knownB S len = true) : CanT S len t.txt ↔ MkT (Op (Kn S len)) t := by
  rw [CanT.at hf hq]
  exact MkT.congr (fun u hu => opT_fit hu) t hf
/-- CUT: what can be made gives nothing more -/
theorem cut_plain {S S' : Nat → ByteArray} {len len' : Nat} {t : ByteArray} (h : CanT S len t) (hq' : knownB S' len' = true) (hk : ∀ u, Kn S' len' u ↔ Kn S len u ∨ (Fit u ∧ u.txt = t)) (x : ByteArray) : CanT S' len' x ↔ CanT S len x := by
  obtain ⟨hq, v, hv, rfl, _⟩ := h
  have hm : MkT (Op (Kn S len)) v := (CanT.mk hv hq).1 ⟨hq, v, hv, rfl, by assumption⟩
  have hop : ∀ u, Op (Kn S' len') u → MkT (Op (Kn S len)) u := fun u hu => hu _ (fun y hy => by
    rcases (hk y).1 hy with h1 | ⟨h1, h2⟩
    · exact .base (.base h1)
    · rw [txt_inj h1 hv (by rw [h2])]; exact hm) (MkT.shut (Op.shut _))
  constructor
  · rintro ⟨_, y, h1, rfl, h2⟩
    have h3 := (MkT.congr (fun u hu => opT_fit hu) y h1).1 h2
    exact (CanT.mk h1 hq).2 (MkT.trans hop y h3)
  · rintro ⟨_, y, h1, rfl, h2⟩
    have h3 := (MkT.congr (fun u hu => opT_fit hu) y h1).1 h2
    exact (CanT.mk h1 hq').2 (MkT.trans (fun u hu => .base (hu.mono (fun z hz => (hk z).2 (.inl hz)))) y h3)

theorem LLa (L : List (List UInt8)) : LL (atL L) L.length = L := by
  apply List.ext_getElem
  · rw [LL_len]
  · intro i h1 h2
    rw [LL_len] at h1
    have e := LL_at (atL L) h1
    rw [atL_list] at e
    simp only [List.getD, List.getElem?_eq_getElem h2, Option.getD_some] at e
    rw [List.getElem?_eq_getElem (by rw [LL_len]; exact h1), Option.getD_some] at e
    exact e
theorem bytes_eqE {a b : ByteArray} (h : a.toList = b.toList) : a = b := by
  rw [ByteArray.toList_eq, ByteArray.toList_eq] at h
  exact ByteArray.ext (Array.ext' h)
/-- known: a right term whose text is among them -/
theorem kn_list (L : List (List UInt8)) (u : Tr) : Kn (atL L) L.length u ↔ Fit u ∧ u.txt.toList ∈ L := by
  constructor
  · rintro ⟨hf, i, hi, e⟩
    refine ⟨hf, ?_⟩
    rw [e, atL_list]
    simp only [List.getD, List.getElem?_eq_getElem hi, Option.getD_some]
    exact List.getElem_mem hi
  · rintro ⟨hf, hm⟩
    obtain ⟨i, hi, e⟩ := List.mem_iff_getElem.1 hm
    refine ⟨hf, i, hi, bytes_eqE ?_⟩
    rw [atL_list]
    simp only [List.getD, List.getElem?_eq_getElem hi, Option.getD_some]
    exact e.symm
theorem kn_put (L : List (List UInt8)) (t : ByteArray) (u : Tr) : Kn (atL (putL L t.toList)) (putL L t.toList).length u ↔ Kn (atL L) L.length u ∨ (Fit u ∧ u.txt = t) := by
  rw [kn_list, kn_list, putL_mem]
  constructor
  · rintro ⟨hf, h | h⟩
    · exact .inl ⟨hf, h⟩
    · exact .inr ⟨hf, bytes_eqE h⟩
  · rintro (⟨hf, h⟩ | ⟨hf, h⟩)
    · exact ⟨hf, .inl h⟩
    · exact ⟨hf, .inr (by rw [h])⟩
/-- a learning that is fine: what is known behind it -/
theorem lr_true {L : List (List UInt8)} {t : ByteArray} (h : lrB (atL L) L.length t = true) : lrR (atL L) L.length t = putL L t.toList ∧ knownB (atL (putL L t.toList)) (putL L t.toList).length = true := by
  have e : lrR (atL L) L.length t = putL L t.toList := by
    unfold lrR
    rw [if_pos h, LLa]
  refine ⟨e, ?_⟩
  unfold lrB at h
  rw [LLa, Bool.and_eq_true] at h
  exact h.2
theorem riseB_up {L : List (List UInt8)} (h : Up L) : riseB (atL L) L.length = true := by
  unfold riseB
  rw [List.all_eq_true]
  intro k hk
  have hk := List.mem_range.1 hk
  cases k with
  | zero => rfl
  | succ j =>
    have h1 := List.pairwise_iff_getElem.1 h j (j + 1) (by omega) hk (by omega)
    have h2 : upB (atL L) (j + 1) = true := by
      unfold upB
      rw [Nat.add_sub_cancel, atL_list, atL_list]
      simp only [List.getD, List.getElem?_eq_getElem hk, List.getElem?_eq_getElem (show j < L.length by omega), Option.getD_some]
      exact h1
    rw [h2]
    simp
theorem up_rise {L : List (List UInt8)} (h : riseB (atL L) L.length = true) : Up L := by
  refine List.pairwise_iff_getElem.2 fun i j hi hj hij => ?_
  obtain ⟨d, rfl⟩ : ∃ d, j = i + d + 1 := ⟨j - i - 1, by omega⟩
  have h1 := rise_lessO h i d hj
  rw [atL_list, atL_list] at h1
  simpa only [List.getD, List.getElem?_eq_getElem hi, List.getElem?_eq_getElem hj, Option.getD_some] using h1
theorem termsB_all {S : Nat → ByteArray} {n : Nat} : termsB S n = true ↔ ∀ i, i < n → (rT (S i)).isSome = true := by
  unfold termsB
  rw [List.all_eq_true]
  exact ⟨fun h i hi => h i (List.mem_range.2 hi), fun h i hi => h i (List.mem_range.1 hi)⟩
/-- a right term can be learned where there is room -/
theorem lr_room {L : List (List UInt8)} {t : Tr} (hq : knownB (atL L) L.length = true) (hl : L.length < 30) (hf : Fit t) : lrB (atL L) L.length t.txt = true := by
  unfold lrB
  rw [LLa, hq, Bool.true_and]
  unfold knL knownB
  obtain ⟨h1, h2, h3⟩ := known_of hq
  have hput := putL_len t.txt.toList L
  rw [Bool.and_eq_true, Bool.and_eq_true]
  refine ⟨⟨decide_eq_true (by omega), riseB_up (putL_up _ _ (up_rise h2))⟩, termsB_all.2 fun i hi => ?_⟩
  have hm : (putL L t.txt.toList).getD i [] ∈ putL L t.txt.toList := by
    simp only [List.getD, List.getElem?_eq_getElem hi, Option.getD_some]
    exact List.getElem_mem hi
  rw [← atL_list] at hm
  rcases (putL_mem _ _ _).1 hm with h4 | h4
  · obtain ⟨j, hj, e⟩ := List.mem_iff_getElem.1 h4
    have h5 := termsB_all.1 h3 j hj
    have e2 : atL L j = atL (putL L t.txt.toList) i := by
      apply bytes_eqE
      rw [atL_list L]
      simp only [List.getD, List.getElem?_eq_getElem hj, Option.getD_some]
      exact e
    rw [← e2]
    exact h5
  · rw [bytes_eqE h4, rT_txt hf.1 hf.2.1 hf.2.2]
    rfl
end Go.Proofs.YtpcbhjejpebogaaDoor

namespace Go.Proofs.YtpcbhjejpebogaaDoor
open Go.RowKit Go.Maps
set_option linter.unusedVariables false

def seI : Tr := keyT 501
def seB : Tr := pairT seI ⟨.inl (1, 3)⟩
def seE : Tr := sealT 500 seB
theorem seK_txt : (keyT 500).txt = ⟨#[107, 53, 48, 48]⟩ := by unfold keyT; rw [Tr.txt]; decide +kernel
theorem seI_txt : seI.txt = ⟨#[107, 53, 48, 49]⟩ := by unfold seI keyT; rw [Tr.txt]; decide +kernel
theorem seE_txt : seE.txt = ⟨#[101, 40, 107, 53, 48, 48, 44, 112, 40, 107, 53, 48, 49, 44, 97, 51, 41, 41]⟩ := by unfold seE seB seI sealT pairT keyT; rw [Tr.txt, Tr.txt, Tr.txt, Tr.txt]; decide +kernel
theorem seI_fit : Fit seI := fitKey (by omega)
theorem seE_fit : Fit seE := by
  refine ⟨?_, ?_, ?_⟩
  · unfold seE seB seI sealT pairT keyT
    simp [Tr.Ok]
  · unfold seE seB seI sealT pairT keyT
    simp [Tr.size]
  · unfold seE seB seI sealT pairT keyT
    simp [Tr.deep]
theorem low_shut : Shut LowT := by
  refine ⟨fun t u h => ?_, fun n t h => ?_, fun n t h _ => ?_⟩
  · unfold pairT at h; rw [LowT] at h; exact h
  · unfold signT at h; rw [LowT] at h; exact h.2.2
  · unfold sealT at h; rw [LowT] at h; exact h.2.2
theorem low_key {n : Nat} (h : LowT (keyT n)) : n ≤ 3 := by unfold keyT at h; rw [LowT] at h; exact h.2
theorem kn_low {L : List (List UInt8)} (h : KLow L) {u : Tr} (hu : Kn (atL L) L.length u) : LowT u := by
  obtain ⟨hf, hm⟩ := (kn_list L u).1 hu
  obtain ⟨t, ht, e⟩ := h _ hm
  rw [← txt_inj (ht.fit (by omega)) hf e]
  exact ht.1
theorem secret_no {L : List (List UInt8)} (h : KLow L) (hq : knownB (atL L) L.length = true) : ¬ CanT (atL L) L.length (keyT 500).txt := fun hc => by
  have h1 := MkT.key.1 ((CanT.mk (fitKey (by omega)) hq).1 hc)
  have h2 := h1 LowT (fun u hu => kn_low h hu) low_shut
  have := low_key h2
  omega
def LowE (u : Tr) : Prop := LowT u ∨ u = seE
theorem lowE_shut : Shut LowE := by
  refine ⟨fun t u h => ?_, fun n t h => ?_, fun n t h hk => ?_⟩
  · rcases h with h | h
    · exact ⟨.inl (low_shut.pair t u h).1, .inl (low_shut.pair t u h).2⟩
    · unfold pairT seE sealT at h; simp at h
  · rcases h with h | h
    · exact .inl (low_shut.sign n t h)
    · unfold signT seE sealT at h; simp at h
  · rcases h with h | h
    · unfold sealT at h; rw [LowT] at h; exact .inl h.2.2
    · have hn : n = 500 := by unfold sealT seE sealT at h; simp at h; exact h.1
      subst hn
      rcases hk with hk | hk
      · have := low_key hk; omega
      · unfold keyT seE sealT at hk; simp at hk
theorem secret_m {L : List (List UInt8)} (h : KLow L) (hq : knownB (atL (putL L seE.txt.toList)) (putL L seE.txt.toList).length = true) :
    ¬ CanT (atL (putL L seE.txt.toList)) (putL L seE.txt.toList).length seI.txt ∧ ¬ CanT (atL (putL L seE.txt.toList)) (putL L seE.txt.toList).length (keyT 500).txt ∧ CanT (atL (putL L seE.txt.toList)) (putL L seE.txt.toList).length seE.txt := by
  have hop : ∀ n, 3 < n → ¬ Op (Kn (atL (putL L seE.txt.toList)) (putL L seE.txt.toList).length) (keyT n) := fun n hn ho => by
    have h2 := ho LowE (fun u hu => by
      rcases (kn_put L seE.txt u).1 hu with h3 | ⟨h3, h4⟩
      · exact .inl (kn_low h h3)
      · exact .inr (txt_inj h3 seE_fit (by rw [h4]))) lowE_shut
    rcases h2 with h3 | h3
    · have := low_key h3; omega
    · unfold keyT seE sealT at h3; simp at h3
  refine ⟨fun hc => ?_, fun hc => ?_, ?_⟩
  · exact hop 501 (by omega) (MkT.key.1 ((CanT.mk seI_fit hq).1 hc))
  · exact hop 500 (by omega) (MkT.key.1 ((CanT.mk (fitKey (by omega)) hq).1 hc))
  · exact (CanT.mk seE_fit hq).2 (.base (.base ((kn_put L seE.txt seE).2 (.inr ⟨seE_fit, rfl⟩))))
theorem secret_n {L : List (List UInt8)} (hq : knownB (atL (putL (putL L seE.txt.toList) (keyT 500).txt.toList)) (putL (putL L seE.txt.toList) (keyT 500).txt.toList).length = true) :
    CanT (atL (putL (putL L seE.txt.toList) (keyT 500).txt.toList)) (putL (putL L seE.txt.toList) (keyT 500).txt.toList).length seI.txt := by
  refine (CanT.mk seI_fit hq).2 (.base ?_)
  have hK := Op.shut (Kn (atL (putL (putL L seE.txt.toList) (keyT 500).txt.toList)) (putL (putL L seE.txt.toList) (keyT 500).txt.toList).length)
  have h1 : Op (Kn (atL (putL (putL L seE.txt.toList) (keyT 500).txt.toList)) (putL (putL L seE.txt.toList) (keyT 500).txt.toList).length) (keyT 500) := .base ((kn_put _ _ _).2 (.inr ⟨fitKey (by omega), rfl⟩))
  have h2 : Op (Kn (atL (putL (putL L seE.txt.toList) (keyT 500).txt.toList)) (putL (putL L seE.txt.toList) (keyT 500).txt.toList).length) seE := .base ((kn_put _ _ _).2 (.inl ((kn_put _ _ _).2 (.inr ⟨seE_fit, rfl⟩))))
  exact (hK.pair seI _ (hK.sealK 500 seB h2 h1)).1
/-- learned: room, and what is there -/
theorem KLow.room {L : List (List UInt8)} (hl : L.length ≤ 8) (hq : knownB (atL L) L.length = true) {t : Tr} (hf : Fit t) : lrB (atL L) L.length t.txt = true := lr_room hq (by omega) hf
end Go.Proofs.YtpcbhjejpebogaaDoor

namespace Go.Proofs.YtpcbhjejpebogaaDoor
open Go.RowKit Go.Maps
set_option linter.unusedVariables false

section
variable {W : World} {a : Option Addr} {len cap R : Nat} {Z : Nat → Int}
theorem belowW_any (hU : IsU8 W a len cap Z) (n : Nat) (hn : 1 ≤ n) (hn2 : n ≤ 65536) (w : World) (h : Draw W a len cap R w) :
    Calls Tryd.prog 59 #[.pointer (some ⟨R, 0, none⟩), .int .i64 (n : Int)] w fun e w' => ∃ y : Nat, y < n ∧ e = .returned (.int .i64 (y : Int)) ∧ Draw W a len cap R w' ∧ Mut R w w' := by
  by_cases h1 : n ≤ 256
  · exact belowN_any hU n hn h1 w h
  · have HU := (show Hid _ from hU)
    have H := (show Hid _ from h)
    have h2 : ¬ (n : Int) ≤ 1 := by omega
    have h3 : ¬ (n : Int) ≤ 256 := by omega
    have h0 : ¬ (n : Int) = 0 := by omega
    clear hU h
    go_enter Tryd.func59, Tryd.ntmps59
    go_wp2_with fail
    refine (next_any HU.out _ H.out).mono ?_
    rintro e w1 ⟨x, hx0, hx1, rfl, hD1, hM1⟩
    have HD1 := (show Hid _ from hD1)
    have HM1 := (show Hid _ from hM1)
    clear hD1 hM1
    go_wp2_with fail
    refine (next_any HU.out _ HD1.out).mono ?_
    rintro e w2 ⟨z, hz0, hz1, rfl, hD2, hM2⟩
    have HD2 := (show Hid _ from hD2)
    have HM2 := (show Hid _ from HM1.out.trans hM2)
    clear hD2 hM2
    have hxz : 0 ≤ x * 256 + z ∧ x * 256 + z ≤ 65535 := by omega
    go_wp2
    go_ret
    exact ⟨((x * 256 + z) % n).toNat, by have := Int.emod_lt_of_pos (x * 256 + z) (show (0 : Int) < n by omega); have := Int.emod_nonneg (x * 256 + z) (show (n : Int) ≠ 0 by omega); omega, by rw [Int.toNat_of_nonneg (Int.emod_nonneg _ (by omega))]; rfl, HD2.out, HM2.out⟩

end

/-- a term that DrawCanMake may tell -/
def DT (t : Tr) : Prop := t.Ok ∧ t.size ≤ 42 ∧ t.deep ≤ 11
theorem DT.small {t : Tr} (h : DT t) : t.txt.size ≤ 50000 := by have := Tr.txt_size t h.1; have := h.2.1; omega
theorem Fit.dt {t : Tr} (h : Fit t) : DT t := ⟨h.1, by have := h.2.1; omega, by have := h.2.2; omega⟩
theorem Fit.dtHash {t : Tr} (h : Fit t) : DT ⟨.inr (.inl t)⟩ := ⟨by simp only [Tr.Ok]; exact h.1, by simp only [Tr.size]; have := h.2.1; omega, by simp only [Tr.deep]; have := h.2.2; omega⟩
theorem Fit.dtPair {t : Tr} (h : Fit t) : DT ⟨.inr (.inr (.inl (⟨.inl (1, 1)⟩, t)))⟩ := ⟨by rw [Tr.Ok, Tr.Ok]; exact ⟨⟨.inl rfl, by omega⟩, h.1⟩, by simp only [Tr.size]; have := h.2.1; omega, by simp only [Tr.deep]; have := h.2.2; omega⟩
theorem Fit.dtSeal {t : Tr} (h : Fit t) : DT ⟨.inr (.inr (.inr (6, 1, t)))⟩ := ⟨by rw [Tr.Ok]; exact ⟨.inl rfl, by omega, h.1⟩, by simp only [Tr.size]; have := h.2.1; omega, by simp only [Tr.deep]; have := h.2.2; omega⟩
theorem pair_txt (t : Tr) : (⟨.inr (.inr (.inl (⟨.inl (1, 1)⟩, t)))⟩ : Tr).txt = (⟨#[112, 40, 97, 49, 44]⟩ ++ t.txt) ++ ⟨#[41]⟩ := by
  rw [Tr.txt, a1_txt]
  rfl
theorem seal_txt (t : Tr) : (⟨.inr (.inr (.inr (6, 1, t)))⟩ : Tr).txt = (⟨#[101, 40, 107, 49, 44]⟩ ++ t.txt) ++ ⟨#[41]⟩ := by
  rw [Tr.txt, show (Tr.head 6 ++ decB 1) ++ (⟨#[44]⟩ : ByteArray) = ⟨#[101, 40, 107, 49, 44]⟩ by decide +kernel]
theorem wp_letterX {c : Code} {P : Program} {Q : Exit → Act → World → Prop} {a : Act} {w : World} (h : ∀ a', a' = a → c.wp P Q a' w) : c.wp P Q a w := h a rfl
theorem cellX {w : World} {p : Nat} {cs : Array Value} {t : TypeId} {z : Nat × Nat} {i : Nat} {v : Value} (h : w.heap[p]? = some (.cells cs t z)) (hv : cs[i]? = some v) : w.cell? ⟨p, i, none⟩ = some v := by
  simp [World.cell?, h, hv]
theorem q_addX (ev : Operand → Value) (o : Oper) (w : World) (x y : Operand) (a b : ByteArray) (h : o.op = .binOp .add 9 x y 9) (hx : ev x = .string a) (hy : ev y = .string b) (hs : a.size + b.size ≤ 1000000) : (execOp ev o).run Tryd.prog w = .ok (.value (.string (a ++ b))) w := by
  have ha := add_ok hs w
  simp [execOp, h, hx, hy]
  go_simp
  omega
theorem q_build4 (ev : Operand → Value) (o : Oper) (w : World) (x y z u : Operand) (s t p q : ByteArray) (h : o.op = .buildSlice 22 4 #[(0, x), (1, y), (2, z), (3, u)]) (hx : ev x = .string s) (hy : ev y = .string t) (hz : ev z = .string p) (hu : ev u = .string q) : (execOp ev o).run Tryd.prog w = .ok (.value (.slice (some ⟨w.heap.size, 0, none⟩) 4 4)) (w.alloc (.cells #[.string s, .string t, .string p, .string q] 9)) := by
  simp [execOp, h, hx, hy, hz, hu]
  go_simp
theorem q_idxX (ev : Operand → Value) (o : Oper) (w : World) (x y : Operand) (p k : Nat) (h : o.op = .indexAddr 22 x y) (hx : ev x = .slice (some ⟨p, 0, none⟩) 4 4) (hy : ev y = .int .i64 k) (hk : k < 4) : (execOp ev o).run Tryd.prog w = .ok (.value (.pointer (some ⟨p, k, none⟩))) w := by
  have hkI : (k : Int) < 4 := by omega
  simp [execOp, h, hx, hy]
  go_simp
theorem q_loadX (ev : Operand → Value) (o : Oper) (w : World) (x : Operand) (p k : Nat) (c : ByteArray) (h : o.op = .load 9 x) (hx : ev x = .pointer (some ⟨p, k, none⟩)) (hc : w.cell? ⟨p, k, none⟩ = some (.string c)) : (execOp ev o).run Tryd.prog w = .ok (.value (.string c)) w := by
  simp [execOp, h, hx]
  go_simp
/-- four texts of such terms -/
def Four (w : World) (R p : Nat) : Prop := ∃ t0 t1 t2 t3 : Tr, DT t0 ∧ DT t1 ∧ DT t2 ∧ DT t3 ∧ p ≠ R ∧ w.heap[p]? = some (.cells #[.string t0.txt, .string t1.txt, .string t2.txt, .string t3.txt] 9 (0, 0))
theorem Four.mut {w w' : World} {R p : Nat} (h : Four w R p) (hM : Mut R w w') : Four w' R p := by
  obtain ⟨t0, t1, t2, t3, h0, h1, h2, h3, hp, hb⟩ := h
  exact ⟨t0, t1, t2, t3, h0, h1, h2, h3, hp, (hM.block p (lt_of_block hb) hp).trans hb⟩
theorem Four.at {w : World} {R p y : Nat} (h : Four w R p) (hy : y < 4) : ∃ t, DT t ∧ w.cell? ⟨p, y, none⟩ = some (.string t.txt) := by
  obtain ⟨t0, t1, t2, t3, h0, h1, h2, h3, hp, hb⟩ := h
  rcases (show y = 0 ∨ y = 1 ∨ y = 2 ∨ y = 3 by omega) with rfl | rfl | rfl | rfl
  · exact ⟨t0, h0, cellX hb rfl⟩
  · exact ⟨t1, h1, cellX hb rfl⟩
  · exact ⟨t2, h2, cellX hb rfl⟩
  · exact ⟨t3, h3, cellX hb rfl⟩
def dsX : List Nat := [28, 29, 30, 31, 32, 33, 34, 35, 36, 37, 38, 39, 40, 41, 42, 43, 2, 3]
def slotX (j : Nat) : Nat := dsX.getD j 0
theorem slotX_inj (i j : Nat) (hi : i < 18) (hj : j < 18) (q : slotX i = slotX j) : i = j := by
  have h : ∀ i : Fin 18, ∀ j : Fin 18, slotX i.val = slotX j.val → i.val = j.val := by decide
  exact h ⟨i, hi⟩ ⟨j, hj⟩ q
theorem slotX_mem (i : Nat) (hi : i < 18) : slotX i ∈ dsX := by
  have h : ∀ i : Fin 18, slotX i.val ∈ dsX := by decide
  exact h ⟨i, hi⟩
/-- of the values of the region -/
def XF (R g m c : Nat) (x : Tr) : Nat → Value → World → Prop
  | 0, v, _ => v = .slice (some ⟨g, 0, none⟩) m c
  | 1, v, _ => v = .string x.txt
  | 2, v, _ => v = .string x.txt
  | 3, v, _ => v = .string (⟨#[104, 40]⟩ ++ x.txt)
  | 4, v, _ => ∃ t, DT t ∧ v = .string t.txt
  | 5, v, _ => v = .string x.txt
  | 6, v, _ => v = .string (⟨#[112, 40, 97, 49, 44]⟩ ++ x.txt)
  | 7, v, _ => ∃ t, DT t ∧ v = .string t.txt
  | 8, v, _ => v = .string x.txt
  | 9, v, _ => v = .string (⟨#[101, 40, 107, 49, 44]⟩ ++ x.txt)
  | 10, v, _ => ∃ t, DT t ∧ v = .string t.txt
  | 11, v, w => ∃ p, v = .slice (some ⟨p, 0, none⟩) 4 4 ∧ Four w R p
  | 12, v, _ => v = .pointer (some ⟨R, 0, none⟩)
  | 13, v, _ => ∃ y : Nat, y < 4 ∧ v = .int .i64 y
  | 14, v, w => ∃ p y : Nat, y < 4 ∧ v = .pointer (some ⟨p, y, none⟩) ∧ Four w R p
  | 15, v, _ => ∃ t, DT t ∧ v = .string t.txt
  | 16, v, _ => v = .slice (some ⟨g, 0, none⟩) m c
  | 17, v, _ => ∃ t, DT t ∧ v = .string t.txt
  | _, _, _ => True
theorem XF.mut {R g m c : Nat} {x : Tr} {j : Nat} {v : Value} {w w' : World} (h : XF R g m c x j v w) (hM : Mut R w w') : XF R g m c x j v w' := by
  match j, h with
  | 0, h => exact h
  | 1, h => exact h
  | 2, h => exact h
  | 3, h => exact h
  | 4, h => exact h
  | 5, h => exact h
  | 6, h => exact h
  | 7, h => exact h
  | 8, h => exact h
  | 9, h => exact h
  | 10, h => exact h
  | 11, ⟨p, e, hp⟩ => exact ⟨p, e, hp.mut hM⟩
  | 12, h => exact h
  | 13, h => exact h
  | 14, ⟨p, y, hy, e, hp⟩ => exact ⟨p, y, hy, e, hp.mut hM⟩
  | 15, h => exact h
  | 16, h => exact h
  | 17, h => exact h
  | (n + 18), _ => trivial

set_option maxRecDepth 8000 in
set_option maxHeartbeats 8000000 in
theorem drawCanMake_any (a : Option Addr) (len cap : Nat) (Z : Nat → Int) (w : World) (hU : IsU8 w a len cap Z) :
    Calls Tryd.prog 27 #[.slice a len cap] w fun e w' => ∃ g c L t, e = .returned (.tuple #[.slice (some ⟨g, 0, none⟩) L.length c, .string t.txt]) ∧ OwnS w' w.heap.size g c L ∧ L.length ≤ 8 ∧ KLow L ∧ DT t ∧ Below w.heap.size w w' := by
  have HTM : Hid (∀ (R : Nat) (v : World), Draw w a len cap R v → Calls Tryd.prog 60 #[.pointer (some ⟨R, 0, none⟩), .int .i64 3] v fun e w' => ∃ t : Tr, TD 3 t ∧ e = .returned (.string t.txt) ∧ Draw w a len cap R w' ∧ Mut R v w') := fun R v hv => drTerm_any hU 3 (by omega) v hv
  go_enter Tryd.func27, Tryd.ntmps27
  go_wp2_with fail
  refine (openD_any a len cap w).mono ?_
  rintro e w1 ⟨rfl, hD1⟩
  obtain ⟨R, hR⟩ : ∃ R, R = w.heap.size := ⟨_, rfl⟩
  have HR : Hid (R = w.heap.size) := hR
  rw [← hR] at hD1 ⊢
  clear hR
  go_wp2_with fail
  refine (drKnown_any hU w1 hD1).mono ?_
  rintro e w2 ⟨g, c, L, rfl, ho, hl, hk, hD2⟩
  have HO2 : Hid (OwnS w2 (R + 1) g c L) := ho
  have HL : Hid (L.length ≤ 8 ∧ KLow L) := ⟨hl, hk⟩
  have HD2 : Hid (Draw w a len cap R w2) := hD2
  have HOP : Hid (Calls Tryd.prog 9 #[.slice (some ⟨g, 0, none⟩) L.length c] w2 fun e w' => ∃ v M, e = .returned v ∧ OwnL w' w2.heap.size v M ∧ OpR (atL L) L.length M ∧ Below w2.heap.size w2 w') := specOpened_any _ _ _ _ w2 HO2.out.strs HL.out.2.sizes
  obtain ⟨m, hm⟩ : ∃ m, m = L.length := ⟨_, rfl⟩
  have HM : Hid (m = L.length) := hm
  rw [← hm] at HOP ⊢
  clear hm ho hl hk hD1 hD2
  go_wp2_with fail
  refine HOP.out.mono ?_
  rintro e w3 ⟨v, M, rfl, hoM, hMR, hB3⟩
  have HO3 : Hid (OwnS w3 (R + 1) g c L) := HO2.out.below hB3
  have HD3 : Hid (Draw w a len cap R w3) := HD2.out.below hB3
  obtain ⟨ma, mc, rfl, hI, hq⟩ := hoM.strs2
  have HI : Hid (IsStrs w3 ma M.length mc (atL M)) := hI
  have HQ : Hid (∀ b off, ma = some ⟨b, off, none⟩ → R < b) := fun b off e => by
    have h1 := (hq b off e).1
    have h2 := HD2.out.lt
    omega
  have HMR : Hid (OpR (atL L) m M) := hMR
  obtain ⟨k, hkm⟩ : ∃ k, k = M.length := ⟨_, rfl⟩
  have HKM : Hid (k = M.length) := hkm
  rw [← hkm] at HI ⊢
  have hk4 : k ≤ 4000 := by
    rw [hkm]
    exact OpR.small HMR.out
  clear hoM hMR hB3 hI hq hkm HOP
  have HEND : Hid (∀ (v : World) (t : Tr), OwnS v (R + 1) g c L → Draw w a len cap R v → DT t → ∃ g' c' L' t', Ending.returned (.tuple #[.slice (some ⟨g, 0, none⟩) m c, .string t.txt]) = .returned (.tuple #[.slice (some ⟨g', 0, none⟩) L'.length c', .string t'.txt]) ∧ OwnS v w.heap.size g' c' L' ∧ L'.length ≤ 8 ∧ KLow L' ∧ DT t' ∧ Below w.heap.size w v) := fun v t ho hd ht => ⟨g, c, L, t, by rw [HM.out], mono_base ho (by have := HR.out; omega), HL.out.1, HL.out.2, ht, hd.bel⟩
  by_cases h0 : 0 < k
  · have h0I : (0 : Int) < (k : Int) := by omega
    go_wp2_with fail
    refine (once_any hU 2 (by omega) (by omega) w3 HD3.out).mono ?_
    rintro e w4 ⟨x, rfl, hD4, hM4⟩
    have HO4 : Hid (OwnS w4 (R + 1) g c L) := HO3.out.mut hM4 (by omega)
    have HD4 : Hid (Draw w a len cap R w4) := hD4
    have HI4 : Hid (IsStrs w4 ma k mc (atL M)) := HI.out.kept (p := fun b => b ≠ R) ⟨hM4.os, hM4.tape, hM4.output, hM4.size, hM4.block⟩ (fun b off e => by have := HQ.out b off e; omega)
    clear hD4 hM4
    cases x with
    | false =>
      go_wp2_with fail
      refine (HTM.out R w4 HD4.out).mono ?_
      rintro e w5 ⟨t, hT, rfl, hD5, hM5⟩
      have HE : Hid (OwnS w5 (R + 1) g c L ∧ Draw w a len cap R w5 ∧ DT t) := ⟨HO4.out.mut hM5 (by omega), hD5, (hT.fit (by omega)).dt⟩
      clear hT hD5 hM5
      go_wp2
      go_ret2
      exact HEND.out w5 t HE.out.1 HE.out.2.1 HE.out.2.2
    | true =>
      go_wp2_with fail
      refine (belowW_any hU k (by omega) (by omega) w4 HD4.out).mono ?_
      rintro e w5 ⟨y, hy, rfl, hD5, hM5⟩
      have HO5 : Hid (OwnS w5 (R + 1) g c L) := HO4.out.mut hM5 (by omega)
      have HD5 : Hid (Draw w a len cap R w5) := hD5
      obtain ⟨h51, h52, h53⟩ := HI4.out.kept (p := fun b => b ≠ R) ⟨hM5.os, hM5.tape, hM5.output, hM5.size, hM5.block⟩ (fun b off e => by have := HQ.out b off e; omega)
      obtain ⟨b, off, rfl, hbs, hcell⟩ := h53 (by omega)
      have d1 := hcell y hy
      have hyI : (y : Int) < (k : Int) := by omega
      obtain ⟨x, hxf, hx⟩ : ∃ x : Tr, Fit x ∧ x.txt = atL M y := by
        have hq : knownB (atL L) m = true := by
          cases hq : knownB (atL L) m with
          | true => rfl
          | false =>
            have h1 := HMR.out.2 hq
            have h2 := HKM.out
            rw [h1] at h2
            simp at h2
            omega
        have hyM : y < M.length := by rw [← HKM.out]; exact hy
        have hmem : M.getD y [] ∈ M := by
          simp only [List.getD, List.getElem?_eq_getElem hyM, Option.getD_some]
          exact List.getElem_mem hyM
        obtain ⟨t, ht, e⟩ := ((HMR.out.1 hq).2 _).1 hmem
        exact ⟨t, op_fit ht, bytes_eqE (by rw [e, atL_list])⟩
      rw [← hx] at d1
      have HXF : Hid (Fit x) := hxf
      have hxs : x.txt.size ≤ 41000 := by have := Tr.txt_size x hxf.1; have := hxf.2.1; omega
      have en1 : ∀ args w, (callFunc 59 args).run Tryd.prog w = .ok (.enter 59 args) w := enters_of Tryd.func59 (by kernel_rfl) rfl
      have HEN : Hid (∀ args w, (callFunc 59 args).run Tryd.prog w = .ok (.enter 59 args) w) := en1
      clear hD5 hM5 h51 h52 h53 hbs hcell hx hxf en1
      go_wp2_with fail
      refine wp_cut_to (fun a0 t w' => ∃ f tt, t = canon a0 dsX f ∧ DT tt ∧ f 2 = .slice (some ⟨g, 0, none⟩) m c ∧ f 3 = .string tt.txt ∧ Draw w a len cap R w' ∧ OwnS w' (R + 1) g c L) ?_ ?_
      · rintro _ wy ⟨f, tt, rfl, ht, h2, h3, hy, hy2⟩
        simp only [canon, dsX, List.foldl, Act.put, List.setIfInBounds_toArray, List.set_cons_succ, List.set_cons_zero]
        rw [h2, h3]
        have HY : Hid (Draw w a len cap R wy ∧ OwnS wy (R + 1) g c L ∧ DT tt) := ⟨hy, hy2, ht⟩
        clear hy hy2 ht
        go_wp2
        go_ret2
        exact HEND.out wy tt HY.out.2.1 HY.out.1 HY.out.2.2
      intro J K' hJ hK
      refine wp_letterX ?_
      intro fr hfr
      have hs7 : 43 < fr.tmps.size := by rw [hfr]; exact Nat.le_of_ble_eq_true rfl
      have t4 : fr.eval (.tmp 4) = .pointer (some ⟨R, 0, none⟩) := by rw [hfr]; rfl
      have t5 : fr.eval (.tmp 5) = .slice (some ⟨g, 0, none⟩) m c := by rw [hfr]; rfl
      have t7 : fr.eval (.tmp 7) = .string x.txt := by rw [hfr]; rfl
      have HFR : Hid _ := hfr
      clear hfr
      have rr : ∀ w', (fun v v' => Mut R v v' ∧ (Draw w a len cap R v → Draw w a len cap R v')) w' w' := fun w' => ⟨Mut.refl R w', fun h => h⟩
      refine wp_region_rel (Rel := fun v v' => Mut R v v' ∧ (Draw w a len cap R v → Draw w a len cap R v')) rr (fun h k => ⟨h.1.trans k.1, fun q => k.2 (h.2 q)⟩) (fun v => ⟨Mut.of_below (Below.refl _ _).drew, fun h => h.below (Below.refl _ _).drew⟩) (by kernel_rfl) (by kernel_rfl) dsX slotX (XF R g m c x) (fun _ _ _ _ h hB => h.mut hB.1) ?_ ?_ ?_ ?_
      · intro i hi
        exact slotX_mem i hi
      · intro i j hi hj q
        exact slotX_inj i j hi hj q
      · intro ops hops f wy i o hy ho hd
        have ho2 := ho
        rw [hops] at ho
        have N4 := (canon_eval_ne fr dsX f 4 (by decide)).trans t4
        have N5 := (canon_eval_ne fr dsX f 5 (by decide)).trans t5
        have N7 := (canon_eval_ne fr dsX f 7 (by decide)).trans t7
        have ev : ∀ d, d ∈ dsX → d < 44 → (canon fr dsX f).eval (.tmp d) = f d := fun d h1 h2 => canon_eval fr dsX f d h1 (by omega)
        have hi : i < 18 := by
          rcases Nat.lt_or_ge i 18 with h | h
          · exact h
          · rw [Array.getElem?_eq_none (by simpa using h)] at ho; cases ho
        have hi' : i = 0 ∨ i = 1 ∨ i = 2 ∨ i = 3 ∨ i = 4 ∨ i = 5 ∨ i = 6 ∨ i = 7 ∨ i = 8 ∨ i = 9 ∨ i = 10 ∨ i = 11 ∨ i = 12 ∨ i = 13 ∨ i = 14 ∨ i = 15 ∨ i = 16 ∨ i = 17 := by omega
        clear hops
        rcases hi' with rfl | rfl | rfl | rfl | rfl | rfl | rfl | rfl | rfl | rfl | rfl | rfl | rfl | rfl | rfl | rfl | rfl | rfl <;> simp only [List.getElem?_toArray, List.getElem?_cons_succ, List.getElem?_cons_zero, Option.some.injEq] at ho <;> subst ho
        · refine wpOp_runG ho2 (wanted_none rfl) (q_moveP (canon fr dsX f).eval _ wy _ rfl) ?_
          exact ⟨_, rfl, N5, rr wy⟩
        · refine wpOp_runG ho2 (wanted_none rfl) (q_moveP (canon fr dsX f).eval _ wy _ rfl) ?_
          exact ⟨_, rfl, N7, rr wy⟩
        · refine wpOp_runG ho2 (wanted_none rfl) (q_moveP (canon fr dsX f).eval _ wy _ rfl) ?_
          exact ⟨_, rfl, N7, rr wy⟩
        · refine wpOp_runG ho2 (wanted_none rfl) (q_addX (canon fr dsX f).eval _ wy _ _ ⟨#[104, 40]⟩ x.txt rfl rfl ((ev 30 (by decide) (by decide)).trans (hd ⟨2, .data⟩ (by simp) rfl)) (by have e : (ByteArray.mk #[104, 40]).size = 2 := rfl; omega)) ?_
          exact ⟨_, rfl, rfl, rr wy⟩
        · refine wpOp_runG ho2 (wanted_none rfl) (q_addX (canon fr dsX f).eval _ wy _ _ (ByteArray.mk #[104, 40] ++ x.txt) ⟨#[41]⟩ rfl ((ev 31 (by decide) (by decide)).trans (hd ⟨3, .data⟩ (by simp) rfl)) rfl (by rw [ByteArray.size_append]; have e : (ByteArray.mk #[104, 40]).size = 2 := rfl; have e2 : (ByteArray.mk #[41]).size = 1 := rfl; omega)) ?_
          exact ⟨_, rfl, ⟨_, HXF.out.dtHash, by rw [Tr.txt]⟩, rr wy⟩
        · refine wpOp_runG ho2 (wanted_none rfl) (q_moveP (canon fr dsX f).eval _ wy _ rfl) ?_
          exact ⟨_, rfl, N7, rr wy⟩
        · refine wpOp_runG ho2 (wanted_none rfl) (q_addX (canon fr dsX f).eval _ wy _ _ ⟨#[112, 40, 97, 49, 44]⟩ x.txt rfl rfl ((ev 33 (by decide) (by decide)).trans (hd ⟨5, .data⟩ (by simp) rfl)) (by have e : (ByteArray.mk #[112, 40, 97, 49, 44]).size = 5 := rfl; omega)) ?_
          exact ⟨_, rfl, rfl, rr wy⟩
        · refine wpOp_runG ho2 (wanted_none rfl) (q_addX (canon fr dsX f).eval _ wy _ _ (ByteArray.mk #[112, 40, 97, 49, 44] ++ x.txt) ⟨#[41]⟩ rfl ((ev 34 (by decide) (by decide)).trans (hd ⟨6, .data⟩ (by simp) rfl)) rfl (by rw [ByteArray.size_append]; have e : (ByteArray.mk #[112, 40, 97, 49, 44]).size = 5 := rfl; have e2 : (ByteArray.mk #[41]).size = 1 := rfl; omega)) ?_
          exact ⟨_, rfl, ⟨_, HXF.out.dtPair, by rw [pair_txt]⟩, rr wy⟩
        · refine wpOp_runG ho2 (wanted_none rfl) (q_moveP (canon fr dsX f).eval _ wy _ rfl) ?_
          exact ⟨_, rfl, N7, rr wy⟩
        · refine wpOp_runG ho2 (wanted_none rfl) (q_addX (canon fr dsX f).eval _ wy _ _ ⟨#[101, 40, 107, 49, 44]⟩ x.txt rfl rfl ((ev 36 (by decide) (by decide)).trans (hd ⟨8, .data⟩ (by simp) rfl)) (by have e : (ByteArray.mk #[101, 40, 107, 49, 44]).size = 5 := rfl; omega)) ?_
          exact ⟨_, rfl, rfl, rr wy⟩
        · refine wpOp_runG ho2 (wanted_none rfl) (q_addX (canon fr dsX f).eval _ wy _ _ (ByteArray.mk #[101, 40, 107, 49, 44] ++ x.txt) ⟨#[41]⟩ rfl ((ev 37 (by decide) (by decide)).trans (hd ⟨9, .data⟩ (by simp) rfl)) rfl (by rw [ByteArray.size_append]; have e : (ByteArray.mk #[101, 40, 107, 49, 44]).size = 5 := rfl; have e2 : (ByteArray.mk #[41]).size = 1 := rfl; omega)) ?_
          exact ⟨_, rfl, ⟨_, HXF.out.dtSeal, by rw [seal_txt]⟩, rr wy⟩
        · obtain ⟨t1, h1, e1⟩ := (hd ⟨4, .data⟩ (by simp) rfl)
          obtain ⟨t2, h2, e2⟩ := (hd ⟨7, .data⟩ (by simp) rfl)
          obtain ⟨t3, h3, e3⟩ := (hd ⟨10, .data⟩ (by simp) rfl)
          refine wpOp_runG ho2 (wanted_none rfl) (q_build4 (canon fr dsX f).eval _ wy _ _ _ _ x.txt t1.txt t2.txt t3.txt rfl ((ev 29 (by decide) (by decide)).trans (hd ⟨1, .data⟩ (by simp) rfl)) ((ev 32 (by decide) (by decide)).trans e1) ((ev 35 (by decide) (by decide)).trans e2) ((ev 38 (by decide) (by decide)).trans e3)) ?_
          exact ⟨_, rfl, ⟨_, rfl, x, t1, t2, t3, HXF.out.dt, h1, h2, h3, Nat.ne_of_gt (Nat.lt_of_lt_of_le (Draw.lt HD5.out) hy.1.size), heap_alloc_new _ _⟩, ⟨(Mut.refl R wy).alloc _, fun h => h.alloc _⟩⟩
        · refine wpOp_runG ho2 (wanted_none rfl) (q_moveP (canon fr dsX f).eval _ wy _ rfl) ?_
          exact ⟨_, rfl, N4, rr wy⟩
        · refine wpOp_enterG ho2 (wanted_none rfl) (q_call2P (canon fr dsX f).eval _ wy _ HEN.out _ _ _ rfl rfl) ?_
          rw [(ev 40 (by decide) (by decide)).trans (hd ⟨12, .data⟩ (by simp) rfl)]
          refine (belowN_any hU 4 (by omega) (by omega) wy (hy.2 HD5.out)).mono ?_
          rintro e wz ⟨y, hy4, rfl, hDz, hMz⟩
          exact ⟨_, rfl, _, rfl, ⟨y, hy4, rfl⟩, hMz, fun _ => hDz⟩
        · obtain ⟨p, hp, hF⟩ := (hd ⟨11, .data⟩ (by simp) rfl)
          obtain ⟨y, hy4, hyv⟩ := (hd ⟨13, .data⟩ (by simp) rfl)
          refine wpOp_runG ho2 (wanted_none rfl) (q_idxX (canon fr dsX f).eval _ wy _ _ p y rfl ((ev 39 (by decide) (by decide)).trans hp) ((ev 41 (by decide) (by decide)).trans hyv) hy4) ?_
          exact ⟨_, rfl, ⟨p, y, hy4, rfl, hF⟩, rr wy⟩
        · obtain ⟨p, y, hy4, hpv, hF⟩ := (hd ⟨14, .data⟩ (by simp) rfl)
          obtain ⟨t, ht, hc⟩ := hF.at hy4
          refine wpOp_runG ho2 (wanted_none rfl) (q_loadX (canon fr dsX f).eval _ wy _ p y t.txt rfl ((ev 42 (by decide) (by decide)).trans hpv) hc) ?_
          exact ⟨_, rfl, ⟨t, ht, rfl⟩, rr wy⟩
        · refine wpOp_runG ho2 (wanted_none rfl) (q_assignP (canon fr dsX f).eval _ wy _ rfl) ?_
          exact ⟨_, rfl, (ev 28 (by decide) (by decide)).trans (hd ⟨0, .data⟩ (by simp) rfl), rr wy⟩
        · obtain ⟨t, ht, e⟩ := (hd ⟨15, .data⟩ (by simp) rfl)
          refine wpOp_runG ho2 (wanted_none rfl) (q_assignP (canon fr dsX f).eval _ wy _ rfl) ?_
          exact ⟨_, rfl, ⟨t, ht, (ev 43 (by decide) (by decide)).trans e⟩, rr wy⟩
      · intro f wy hy hall
        obtain ⟨t, ht, e⟩ := hall 17 (by decide)
        exact hK _ _ (Met.intro (hJ _ _ ⟨f, t, congrArg (fun z => canon z dsX f) HFR.out, ht, hall 16 (by decide), e, hy.2 HD5.out, HO5.out.mut hy.1 (by omega)⟩))
  · have h0I : ¬ (0 : Int) < (k : Int) := by omega
    go_wp2_with fail
    refine (HTM.out R w3 HD3.out).mono ?_
    rintro e w5 ⟨t, hT, rfl, hD5, hM5⟩
    have HE : Hid (OwnS w5 (R + 1) g c L ∧ Draw w a len cap R w5 ∧ DT t) := ⟨HO3.out.mut hM5 (by omega), hD5, (hT.fit (by omega)).dt⟩
    clear hT hD5 hM5
    go_wp2
    go_ret2
    exact HEND.out w5 t HE.out.1 HE.out.2.1 HE.out.2.2
end Go.Proofs.YtpcbhjejpebogaaDoor

namespace Go.Proofs.YtpcbhjejpebogaaDoor
open Go.RowKit Go.Maps
set_option linter.unusedVariables false

/-- both CanMakes at a list of one's own -/
theorem canI (L : List (List UInt8)) (g c base : Nat) (s : ByteArray) (w : World) (hO : OwnS w base g c L) (hS : ∀ i, i < L.length → (atL L i).size ≤ 1048576) (hs : s.size ≤ 1048576) (hP : Pow w) (b : Bool) (hb : b = true ↔ CanT (atL L) L.length s) :
    Calls Tryd.prog 16 #[.slice (some ⟨g, 0, none⟩) L.length c, .string s] w fun e w' => e = .returned (.bool b) ∧ Below w.heap.size w w' :=
  (implCanMake_any _ _ _ _ s w hO.strs hS hs hP).mono (by
    rintro e w' ⟨q, rfl, hq, hB⟩
    exact ⟨ret_b (by rw [Bool.eq_iff_iff, hq, hb]), hB⟩)
theorem canS (L : List (List UInt8)) (g c base : Nat) (s : ByteArray) (w : World) (hO : OwnS w base g c L) (hS : ∀ i, i < L.length → (atL L i).size ≤ 1048576) (hs : s.size ≤ 1048576) (b : Bool) (hb : b = true ↔ CanT (atL L) L.length s) :
    Calls Tryd.prog 15 #[.slice (some ⟨g, 0, none⟩) L.length c, .string s] w fun e w' => e = .returned (.bool b) ∧ Below w.heap.size w w' :=
  (specCanMake_any _ _ _ _ s w hO.strs hS hs).mono (by
    rintro e w' ⟨q, rfl, hq, hB⟩
    exact ⟨ret_b (by rw [Bool.eq_iff_iff, hq, hb]), hB⟩)
theorem put_small {L : List (List UInt8)} {t : ByteArray} (hS : ∀ i, i < L.length → (atL L i).size ≤ 1048576) (ht : t.size ≤ 1048576) : ∀ i, i < (putL L t.toList).length → (atL (putL L t.toList) i).size ≤ 1048576 := by
  have h := put_sizes (S := atL L) (n := L.length) hS ht
  rw [LLa] at h
  exact h
theorem learnI (L : List (List UInt8)) (g c base : Nat) (t : ByteArray) (w : World) (hO : OwnS w base g c L) (hS : ∀ i, i < L.length → (atL L i).size ≤ 1048576) (ht : t.size ≤ 1048576) (hr : lrB (atL L) L.length t = true) :
    Calls Tryd.prog 29 #[.slice (some ⟨g, 0, none⟩) L.length c, .string t] w fun e w' => ∃ g' c', e = .returned (.tuple #[.slice (some ⟨g', 0, none⟩) (putL L t.toList).length c', .bool true]) ∧ OwnS w' w.heap.size g' c' (putL L t.toList) ∧ Below w.heap.size w w' :=
  (implLearned_any g L.length c (atL L) t w hO.strs hS ht).mono (by
    rintro e w' ⟨v, rfl, ho, hB⟩
    rw [hr]
    rw [(lr_true hr).1] at ho
    obtain ⟨g', c', rfl, hf⟩ := own_form ho (L := putL L t.toList) rfl rfl (fun e => by
      have h1 := ho
      unfold OwnL at h1
      rw [e] at h1
      rcases h1.2 with ⟨_, h2⟩ | ⟨g2, c2, cur, h2, _⟩
      · exact putL_nonempty t.toList L (List.eq_nil_of_length_eq_zero h2)
      · cases h2)
    exact ⟨g', c', rfl, hf, hB⟩)

set_option maxRecDepth 8000 in
set_option maxHeartbeats 8000000 in
theorem secret_walk {u : Option Addr} {len cap : Nat} {Z : Nat → Int} (w : World) (hU : IsU8 w u len cap Z) (hP : Pow w) :
    Calls Tryd.prog 7 #[.slice u len cap] w fun e w' => e = .returned (.bool true) ∧ Below w.heap.size w w' := by
  have HP : Hid (Pow w) := hP
  clear hP
  go_enter Tryd.func7, Tryd.ntmps7
  obtain ⟨bg, hbg⟩ : ∃ bg, bg = decide ((1048576 : Int) < (len : Int)) := ⟨_, rfl⟩
  go_wp2_with fail
  refine (bigD_any u len cap w).mono ?_
  rintro e w0 ⟨rfl, hw0⟩
  rw [hw0, ← hbg]
  clear hw0 w0 hbg
  cases bg with
  | true =>
    go_wp2
    go_ret
    exact ⟨rfl, Below.refl _ _⟩
  | false =>
  go_wp2_with fail
  refine (drawOpened_any u len cap Z w hU).mono ?_
  rintro e w1 ⟨g, c, L, rfl, ho, hl, hk, hB1⟩
  have HO1 : Hid (OwnS w1 w.heap.size g c L) := ho
  have HL : Hid (L.length ≤ 8 ∧ KLow L) := ⟨hl, hk⟩
  have HB1 : Hid (Below w.heap.size w w1) := hB1
  obtain ⟨q, hq⟩ : ∃ q : Bool, q = true ↔ CanT (atL L) L.length (keyT 500).txt := ⟨_, @decide_eq_true_iff _ (Classical.propDecidable _)⟩
  have HQ : Hid (q = true ↔ CanT (atL L) L.length (keyT 500).txt) := hq
  obtain ⟨kn, hkn⟩ : ∃ kn, kn = knownB (atL L) L.length := ⟨_, rfl⟩
  have HKN : Hid (kn = knownB (atL L) L.length) := hkn
  have HCI : Hid (∀ v, Below w1.heap.size w1 v → Below w.heap.size w v → Calls Tryd.prog 16 #[.slice (some ⟨g, 0, none⟩) L.length c, .string ⟨#[107, 53, 48, 48]⟩] v fun e w' => e = .returned (.bool q) ∧ Below v.heap.size v w') := fun v hv hw => by
    have h1 := canI L g c w.heap.size (keyT 500).txt v (HO1.out.below hv) HL.out.2.sizes (by rw [seK_txt]; decide) (HP.out.below hw) q HQ.out
    rw [seK_txt] at h1
    exact h1
  have HCS : Hid (∀ v, Below w1.heap.size w1 v → Calls Tryd.prog 15 #[.slice (some ⟨g, 0, none⟩) L.length c, .string ⟨#[107, 53, 48, 48]⟩] v fun e w' => e = .returned (.bool q) ∧ Below v.heap.size v w') := fun v hv => by
    have h1 := canS L g c w.heap.size (keyT 500).txt v (HO1.out.below hv) HL.out.2.sizes (by rw [seK_txt]; decide) q HQ.out
    rw [seK_txt] at h1
    exact h1
  have HK : Hid (∀ v, Below w1.heap.size w1 v → Calls Tryd.prog 31 #[.slice (some ⟨g, 0, none⟩) L.length c] v fun e w' => e = .returned (.bool kn) ∧ Below v.heap.size v w') := fun v hB => by
    rw [HKN.out]
    exact specKnown_any _ _ _ _ v (HO1.out.below hB).strs HL.out.2.sizes
  obtain ⟨m, hm⟩ : ∃ m, m = L.length := ⟨_, rfl⟩
  have HM : Hid (m = L.length) := hm
  rw [← hm] at HCI HCS HK ⊢
  clear ho hl hk hB1 hq hkn hm
  go_wp2_with fail
  refine (HCI.out w1 (Below.refl _ _) HB1.out).mono ?_
  rintro e w2 ⟨rfl, hB2⟩
  have HB2 : Hid (Below w1.heap.size w1 w2 ∧ Below w.heap.size w w2) := ⟨hB2, HB1.out.trans (hB2.mono HB1.out.size)⟩
  clear hB2
  go_wp2_with fail
  refine (HCS.out w2 HB2.out.1).mono ?_
  rintro e w3 ⟨rfl, hB3⟩
  have HB3 : Hid (Below w1.heap.size w1 w3 ∧ Below w.heap.size w w3) := ⟨HB2.out.1.trans (hB3.mono HB2.out.1.size), HB2.out.2.trans (hB3.mono HB2.out.2.size)⟩
  clear hB3
  have hqq : (q != q) = false := by simp
  have hqe : (q == q) = true := by simp
  go_wp2_with fail
  refine (HK.out w3 HB3.out.1).mono ?_
  rintro e w4 ⟨rfl, hB4⟩
  have HB4 : Hid (Below w1.heap.size w1 w4 ∧ Below w.heap.size w w4) := ⟨HB3.out.1.trans (hB4.mono HB3.out.1.size), HB3.out.2.trans (hB4.mono HB3.out.2.size)⟩
  clear hB4
  cases kn with
  | false =>
    go_wp2_with fail
    refine (HCS.out w4 HB4.out.1).mono ?_
    rintro e w5 ⟨rfl, hB5⟩
    have HB5 : Hid (Below w.heap.size w w5) := HB4.out.2.trans (hB5.mono HB4.out.2.size)
    clear hB5
    go_wp2
    go_ret
    exact ⟨rfl, HB5.out⟩
  | true =>
  have hq0 : q = false := by
    cases hq : q with
    | false => rfl
    | true => exact absurd (HQ.out.1 hq) (secret_no HL.out.2 HKN.out.symm)
  subst hq0
  have hlr : lrB (atL L) L.length seE.txt = true := KLow.room HL.out.1 HKN.out.symm seE_fit
  have HLR : Hid (lrB (atL L) L.length seE.txt = true) := hlr
  have HK1 : Hid (knownB (atL (putL L seE.txt.toList)) (putL L seE.txt.toList).length = true) := (lr_true hlr).2
  have HM1 : Hid ((putL L seE.txt.toList).length ≤ 9) := by show _ ≤ _; have h1 := putL_len seE.txt.toList L; have h2 := HL.out.1; omega
  have HZ1 : Hid (∀ i, i < (putL L seE.txt.toList).length → (atL (putL L seE.txt.toList) i).size ≤ 1048576) := put_small HL.out.2.sizes (by rw [seE_txt]; decide)
  clear hlr hqq hqe
  have HLI : Hid (Calls Tryd.prog 29 #[.slice (some ⟨g, 0, none⟩) m c, .string ⟨#[101, 40, 107, 53, 48, 48, 44, 112, 40, 107, 53, 48, 49, 44, 97, 51, 41, 41]⟩] w4 fun e w' => ∃ g' c', e = .returned (.tuple #[.slice (some ⟨g', 0, none⟩) (putL L seE.txt.toList).length c', .bool true]) ∧ OwnS w' w4.heap.size g' c' (putL L seE.txt.toList) ∧ Below w4.heap.size w4 w') := by
    have h1 := learnI L g c w.heap.size seE.txt w4 (HO1.out.below HB4.out.1) HL.out.2.sizes (by rw [seE_txt]; decide) HLR.out
    rw [← HM.out] at h1
    rw [show (Value.string ⟨#[101, 40, 107, 53, 48, 48, 44, 112, 40, 107, 53, 48, 49, 44, 97, 51, 41, 41]⟩) = Value.string seE.txt by rw [seE_txt]]
    exact h1
  go_wp2_with fail
  refine HLI.out.mono ?_
  rintro e w5 ⟨g1, c1, rfl, ho5, hB5⟩
  have HO5 : Hid (OwnS w5 w4.heap.size g1 c1 (putL L seE.txt.toList)) := ho5
  have HB5 : Hid (Below w1.heap.size w1 w5 ∧ Below w.heap.size w w5) := ⟨HB4.out.1.trans (hB5.mono HB4.out.1.size), HB4.out.2.trans (hB5.mono HB4.out.2.size)⟩
  clear ho5 hB5
  obtain ⟨M, hMM⟩ : ∃ M, M = putL L seE.txt.toList := ⟨_, rfl⟩
  have HMM : Hid (M = putL L seE.txt.toList) := hMM
  rw [← hMM] at HK1 HM1 HZ1 HO5 ⊢
  obtain ⟨mm, hmm⟩ : ∃ mm, mm = M.length := ⟨_, rfl⟩
  have HMm : Hid (mm = M.length) := hmm
  rw [← hmm] at HM1 ⊢
  have hm9 : mm ≤ 9 := HM1.out
  clear hMM hmm
  have HLS : Hid (Calls Tryd.prog 32 #[.slice (some ⟨g, 0, none⟩) m c, .string ⟨#[101, 40, 107, 53, 48, 48, 44, 112, 40, 107, 53, 48, 49, 44, 97, 51, 41, 41]⟩] w5 fun e w' => ∃ v, e = .returned (.tuple #[v, .bool true]) ∧ Below w5.heap.size w5 w') := by
    have h1 := specLearned_any g L.length c (atL L) seE.txt w5 (HO1.out.below HB5.out.1).strs (HO1.out.below HB5.out.1).lies.2.1 (by have := HL.out.1; omega) HL.out.2.sizes (by rw [seE_txt]; decide)
    rw [HLR.out, ← HM.out] at h1
    rw [show (Value.string ⟨#[101, 40, 107, 53, 48, 48, 44, 112, 40, 107, 53, 48, 49, 44, 97, 51, 41, 41]⟩) = Value.string seE.txt by rw [seE_txt]]
    exact h1.mono (by rintro e w' ⟨v, rfl, _, hB⟩; exact ⟨v, rfl, hB⟩)
  go_wp2_with fail
  refine HLS.out.mono ?_
  rintro e w6 ⟨v6, rfl, hB6⟩
  have HO6 : Hid (OwnS w6 w4.heap.size g1 c1 M) := HO5.out.below hB6
  have HB6 : Hid (Below w.heap.size w w6) := HB5.out.2.trans (hB6.mono HB5.out.2.size)
  clear hB6
  have hlr2 : lrB (atL M) M.length (keyT 500).txt = true := lr_room HK1.out (by rw [← HMm.out]; omega) (fitKey (by omega))
  have HLR2 : Hid (lrB (atL M) M.length (keyT 500).txt = true) := hlr2
  have HK2 : Hid (knownB (atL (putL M (keyT 500).txt.toList)) (putL M (keyT 500).txt.toList).length = true) := (lr_true hlr2).2
  have HZ2 : Hid (∀ i, i < (putL M (keyT 500).txt.toList).length → (atL (putL M (keyT 500).txt.toList) i).size ≤ 1048576) := put_small HZ1.out (by rw [seK_txt]; decide)
  clear hlr2
  have HLI2 : Hid (Calls Tryd.prog 29 #[.slice (some ⟨g1, 0, none⟩) mm c1, .string ⟨#[107, 53, 48, 48]⟩] w6 fun e w' => ∃ g' c', e = .returned (.tuple #[.slice (some ⟨g', 0, none⟩) (putL M (keyT 500).txt.toList).length c', .bool true]) ∧ OwnS w' w6.heap.size g' c' (putL M (keyT 500).txt.toList) ∧ Below w6.heap.size w6 w') := by
    have h1 := learnI M g1 c1 w4.heap.size (keyT 500).txt w6 HO6.out HZ1.out (by rw [seK_txt]; decide) HLR2.out
    rw [← HMm.out] at h1
    rw [show (Value.string ⟨#[107, 53, 48, 48]⟩) = Value.string (keyT 500).txt by rw [seK_txt]]
    exact h1
  go_wp2_with fail
  refine HLI2.out.mono ?_
  rintro e w7 ⟨g2, c2, rfl, ho7, hB7⟩
  have HO7 : Hid (OwnS w7 w6.heap.size g2 c2 (putL M (keyT 500).txt.toList)) := ho7
  have HM7 : Hid (OwnS w7 w4.heap.size g1 c1 M) := HO6.out.below hB7
  have HB7 : Hid (Below w.heap.size w w7) := HB6.out.trans (hB7.mono HB6.out.size)
  clear ho7 hB7
  obtain ⟨N, hNN⟩ : ∃ N, N = putL M (keyT 500).txt.toList := ⟨_, rfl⟩
  have HNN : Hid (N = putL M (keyT 500).txt.toList) := hNN
  rw [← hNN] at HK2 HZ2 HO7 ⊢
  obtain ⟨nm, hnm⟩ : ∃ nm, nm = N.length := ⟨_, rfl⟩
  have HNm : Hid (nm = N.length) := hnm
  rw [← hnm]
  clear hNN hnm
  have HS : Hid (¬ CanT (atL M) M.length seI.txt ∧ ¬ CanT (atL M) M.length (keyT 500).txt ∧ CanT (atL M) M.length seE.txt) := by
    have h1 := secret_m HL.out.2 (by rw [← HMM.out]; exact HK1.out)
    rw [← HMM.out] at h1
    exact h1
  have HSN : Hid (CanT (atL N) N.length seI.txt) := by
    have h1 := secret_n (L := L) (by rw [← HMM.out, ← HNN.out]; exact HK2.out)
    rw [← HMM.out, ← HNN.out] at h1
    exact h1
  have HC1 : Hid (Calls Tryd.prog 16 #[.slice (some ⟨g1, 0, none⟩) mm c1, .string ⟨#[107, 53, 48, 49]⟩] w7 fun e w' => e = .returned (.bool false) ∧ Below w7.heap.size w7 w') := by
    have h1 := canI M g1 c1 w4.heap.size seI.txt w7 HM7.out HZ1.out (by rw [seI_txt]; decide) (HP.out.below HB7.out) false ⟨fun h => (by cases h), fun h => absurd h HS.out.1⟩
    rw [seI_txt, ← HMm.out] at h1
    exact h1
  go_wp2_with fail
  refine HC1.out.mono ?_
  rintro e w8 ⟨rfl, hB8⟩
  have HM8 : Hid (OwnS w8 w4.heap.size g1 c1 M) := HM7.out.below hB8
  have HO8 : Hid (OwnS w8 w6.heap.size g2 c2 N) := HO7.out.below hB8
  have HB8 : Hid (Below w.heap.size w w8) := HB7.out.trans (hB8.mono HB7.out.size)
  clear hB8
  have HC2 : Hid (Calls Tryd.prog 16 #[.slice (some ⟨g1, 0, none⟩) mm c1, .string ⟨#[107, 53, 48, 48]⟩] w8 fun e w' => e = .returned (.bool false) ∧ Below w8.heap.size w8 w') := by
    have h1 := canI M g1 c1 w4.heap.size (keyT 500).txt w8 HM8.out HZ1.out (by rw [seK_txt]; decide) (HP.out.below HB8.out) false ⟨fun h => (by cases h), fun h => absurd h HS.out.2.1⟩
    rw [seK_txt, ← HMm.out] at h1
    exact h1
  go_wp2_with fail
  refine HC2.out.mono ?_
  rintro e w9 ⟨rfl, hB9⟩
  have HM9 : Hid (OwnS w9 w4.heap.size g1 c1 M) := HM8.out.below hB9
  have HO9 : Hid (OwnS w9 w6.heap.size g2 c2 N) := HO8.out.below hB9
  have HB9 : Hid (Below w.heap.size w w9) := HB8.out.trans (hB9.mono HB8.out.size)
  clear hB9
  have HC3 : Hid (Calls Tryd.prog 16 #[.slice (some ⟨g1, 0, none⟩) mm c1, .string ⟨#[101, 40, 107, 53, 48, 48, 44, 112, 40, 107, 53, 48, 49, 44, 97, 51, 41, 41]⟩] w9 fun e w' => e = .returned (.bool true) ∧ Below w9.heap.size w9 w') := by
    have h1 := canI M g1 c1 w4.heap.size seE.txt w9 HM9.out HZ1.out (by rw [seE_txt]; decide) (HP.out.below HB9.out) true ⟨fun _ => HS.out.2.2, fun _ => rfl⟩
    rw [← HMm.out] at h1
    rw [show (Value.string ⟨#[101, 40, 107, 53, 48, 48, 44, 112, 40, 107, 53, 48, 49, 44, 97, 51, 41, 41]⟩) = Value.string seE.txt by rw [seE_txt]]
    exact h1
  go_wp2_with fail
  refine HC3.out.mono ?_
  rintro e w10 ⟨rfl, hB10⟩
  have HO10 : Hid (OwnS w10 w6.heap.size g2 c2 N) := HO9.out.below hB10
  have HB10 : Hid (Below w.heap.size w w10) := HB9.out.trans (hB10.mono HB9.out.size)
  clear hB10
  have HC4 : Hid (Calls Tryd.prog 16 #[.slice (some ⟨g2, 0, none⟩) nm c2, .string ⟨#[107, 53, 48, 49]⟩] w10 fun e w' => e = .returned (.bool true) ∧ Below w10.heap.size w10 w') := by
    have h1 := canI N g2 c2 w6.heap.size seI.txt w10 HO10.out HZ2.out (by rw [seI_txt]; decide) (HP.out.below HB10.out) true ⟨fun _ => HSN.out, fun _ => rfl⟩
    rw [seI_txt, ← HNm.out] at h1
    exact h1
  go_wp2_with fail
  refine HC4.out.mono ?_
  rintro e w11 ⟨rfl, hB11⟩
  have HB11 : Hid (Below w.heap.size w w11) := HB10.out.trans (hB11.mono HB10.out.size)
  clear hB11
  go_wp2
  go_ret
  exact ⟨rfl, HB11.out⟩
end Go.Proofs.YtpcbhjejpebogaaDoor

namespace Go.Proofs.YtpcbhjejpebogaaDoor
open Go.RowKit Go.Maps
set_option linter.unusedVariables false

theorem drawPartsOf_any (a : Option Addr) (len cap : Nat) (Z : Nat → Int) (w : World) (hU : IsU8 w a len cap Z) :
    Calls Tryd.prog 28 #[.slice a len cap] w fun e w' => ∃ t, TD 4 t ∧ e = .returned (.string t.txt) ∧ Below w.heap.size w w' := by
  have HTM : Hid (∀ (R : Nat) (v : World), Draw w a len cap R v → Calls Tryd.prog 60 #[.pointer (some ⟨R, 0, none⟩), .int .i64 4] v fun e w' => ∃ t : Tr, TD 4 t ∧ e = .returned (.string t.txt) ∧ Draw w a len cap R w' ∧ Mut R v w') := fun R v hv => drTerm_any hU 4 (by omega) v hv
  go_enter Tryd.func28, Tryd.ntmps28
  go_wp2_with fail
  refine (openD_any a len cap w).mono ?_
  rintro e w1 ⟨rfl, hD1⟩
  go_wp2_with fail
  refine (HTM.out _ w1 hD1).mono ?_
  rintro e w2 ⟨t, hT, rfl, hD2, _⟩
  go_wp2
  go_ret
  exact ⟨t, hT, rfl, hD2.bel⟩
theorem IsU8.belowD {w w' : World} {a : Option Addr} {len cap : Nat} {Z : Nat → Int} (h : IsU8 w a len cap Z) (hB : Below w.heap.size w w') : IsU8 w' a len cap Z := by
  obtain ⟨h1, h2, h3, h4⟩ := h
  refine ⟨h1, h2, h3, fun h0 => ?_⟩
  obtain ⟨b, off, e, hb, hc⟩ := h4 h0
  exact ⟨b, off, e, Nat.lt_of_lt_of_le hb hB.size, fun i hi => (hB.cell (p := ⟨b, off + i, none⟩) hb).trans (hc i hi)⟩
theorem learnB (L : List (List UInt8)) (g c base : Nat) (t : ByteArray) (w : World) (hO : OwnS w base g c L) (hS : ∀ i, i < L.length → (atL L i).size ≤ 1048576) (ht : t.size ≤ 1048576) (hr : lrB (atL L) L.length t = false) :
    Calls Tryd.prog 29 #[.slice (some ⟨g, 0, none⟩) L.length c, .string t] w fun e w' => ∃ v, e = .returned (.tuple #[v, .bool false]) ∧ Below w.heap.size w w' :=
  (implLearned_any g L.length c (atL L) t w hO.strs hS ht).mono (by
    rintro e w' ⟨v, rfl, ho, hB⟩
    rw [hr]
    exact ⟨v, rfl, hB⟩)

set_option maxRecDepth 8000 in
set_option maxHeartbeats 8000000 in
theorem cut_walk {u : Option Addr} {len cap : Nat} {Z : Nat → Int} (w : World) (hU : IsU8 w u len cap Z) (hP : Pow w) :
    Calls Tryd.prog 6 #[.slice u len cap] w fun e w' => e = .returned (.bool true) ∧ Below w.heap.size w w' := by
  have HP : Hid (Pow w) := hP
  have HU : Hid (IsU8 w u len cap Z) := hU
  clear hP
  go_enter Tryd.func6, Tryd.ntmps6
  obtain ⟨bg, hbg⟩ : ∃ bg, bg = decide ((1048576 : Int) < (len : Int)) := ⟨_, rfl⟩
  go_wp2_with fail
  refine (bigD_any u len cap w).mono ?_
  rintro e w0 ⟨rfl, hw0⟩
  rw [hw0, ← hbg]
  clear hw0 w0 hbg
  cases bg with
  | true =>
    go_wp2
    go_ret
    exact ⟨rfl, Below.refl _ _⟩
  | false =>
  go_wp2_with fail
  refine (drawCanMake_any u len cap Z w hU).mono ?_
  rintro e w1 ⟨g, c, L, t, rfl, ho, hl, hk, ht, hB1⟩
  have HO1 : Hid (OwnS w1 w.heap.size g c L) := ho
  have HL : Hid (L.length ≤ 8 ∧ KLow L) := ⟨hl, hk⟩
  have HB1 : Hid (Below w.heap.size w w1) := hB1
  obtain ⟨X, hX⟩ : ∃ X, X = t.txt := ⟨_, rfl⟩
  have HXS : Hid (X.size ≤ 1048576) := by show _ ≤ _; rw [hX]; have := ht.small; omega
  rw [← hX]
  obtain ⟨q, hq⟩ : ∃ q : Bool, q = true ↔ CanT (atL L) L.length X := ⟨_, @decide_eq_true_iff _ (Classical.propDecidable _)⟩
  have HQ : Hid (q = true ↔ CanT (atL L) L.length X) := hq
  have HCI : Hid (∀ v, Below w1.heap.size w1 v → Below w.heap.size w v → Calls Tryd.prog 16 #[.slice (some ⟨g, 0, none⟩) L.length c, .string X] v fun e w' => e = .returned (.bool q) ∧ Below v.heap.size v w') := fun v hv hw =>
    canI L g c w.heap.size X v (HO1.out.below hv) HL.out.2.sizes HXS.out (HP.out.below hw) q HQ.out
  have HCS : Hid (∀ v, Below w1.heap.size w1 v → Calls Tryd.prog 15 #[.slice (some ⟨g, 0, none⟩) L.length c, .string X] v fun e w' => e = .returned (.bool q) ∧ Below v.heap.size v w') := fun v hv =>
    canS L g c w.heap.size X v (HO1.out.below hv) HL.out.2.sizes HXS.out q HQ.out
  obtain ⟨m, hm⟩ : ∃ m, m = L.length := ⟨_, rfl⟩
  have HM : Hid (m = L.length) := hm
  rw [← hm] at HCI HCS ⊢
  clear ho hl hk hB1 hq hm hX ht
  go_wp2_with fail
  refine (drawPartsOf_any u len cap Z w1 (HU.out.belowD HB1.out)).mono ?_
  rintro e w2 ⟨v, hT, rfl, hB2⟩
  have HB2 : Hid (Below w1.heap.size w1 w2 ∧ Below w.heap.size w w2) := ⟨hB2, HB1.out.trans (hB2.mono HB1.out.size)⟩
  obtain ⟨Y, hY⟩ : ∃ Y, Y = v.txt := ⟨_, rfl⟩
  have HYS : Hid (Y.size ≤ 1048576) := by show _ ≤ _; rw [hY]; have := hT.small (by omega); omega
  rw [← hY]
  clear hB2 hY hT
  go_wp2_with fail
  refine (HCI.out w2 HB2.out.1 HB2.out.2).mono ?_
  rintro e w3 ⟨rfl, hB3⟩
  have HB3 : Hid (Below w1.heap.size w1 w3 ∧ Below w.heap.size w w3) := ⟨HB2.out.1.trans (hB3.mono HB2.out.1.size), HB2.out.2.trans (hB3.mono HB2.out.2.size)⟩
  clear hB3
  go_wp2_with fail
  refine (HCS.out w3 HB3.out.1).mono ?_
  rintro e w4 ⟨rfl, hB4⟩
  have HB4 : Hid (Below w1.heap.size w1 w4 ∧ Below w.heap.size w w4) := ⟨HB3.out.1.trans (hB4.mono HB3.out.1.size), HB3.out.2.trans (hB4.mono HB3.out.2.size)⟩
  clear hB4
  cases q with
  | false =>
    go_wp2_with fail
    refine (HCS.out w4 HB4.out.1).mono ?_
    rintro e w5 ⟨rfl, hB5⟩
    have HB5 : Hid (Below w.heap.size w w5) := HB4.out.2.trans (hB5.mono HB4.out.2.size)
    clear hB5
    go_wp2
    go_ret
    exact ⟨rfl, HB5.out⟩
  | true =>
  obtain ⟨fb, hfb⟩ : ∃ fb, fb = lrB (atL L) L.length X := ⟨_, rfl⟩
  cases fb with
  | false =>
    have HLB : Hid (Calls Tryd.prog 29 #[.slice (some ⟨g, 0, none⟩) m c, .string X] w4 fun e w' => ∃ v, e = .returned (.tuple #[v, .bool false]) ∧ Below w4.heap.size w4 w') := by
      rw [HM.out]
      exact learnB L g c w.heap.size X w4 (HO1.out.below HB4.out.1) HL.out.2.sizes HXS.out hfb.symm
    clear hfb
    go_wp2_with fail
    refine HLB.out.mono ?_
    rintro e w5 ⟨v5, rfl, hB5⟩
    have HB5 : Hid (Below w.heap.size w w5) := HB4.out.2.trans (hB5.mono HB4.out.2.size)
    clear hB5
    go_wp2
    go_ret
    exact ⟨rfl, HB5.out⟩
  | true =>
  have HLR : Hid (lrB (atL L) L.length X = true) := hfb.symm
  have HK1 : Hid (knownB (atL (putL L X.toList)) (putL L X.toList).length = true) := (lr_true HLR.out).2
  have HZ1 : Hid (∀ i, i < (putL L X.toList).length → (atL (putL L X.toList) i).size ≤ 1048576) := put_small HL.out.2.sizes HXS.out
  have HLI : Hid (Calls Tryd.prog 29 #[.slice (some ⟨g, 0, none⟩) m c, .string X] w4 fun e w' => ∃ g' c', e = .returned (.tuple #[.slice (some ⟨g', 0, none⟩) (putL L X.toList).length c', .bool true]) ∧ OwnS w' w4.heap.size g' c' (putL L X.toList) ∧ Below w4.heap.size w4 w') := by
    rw [HM.out]
    exact learnI L g c w.heap.size X w4 (HO1.out.below HB4.out.1) HL.out.2.sizes HXS.out HLR.out
  have HCUT : Hid (CanT (atL (putL L X.toList)) (putL L X.toList).length Y ↔ CanT (atL L) L.length Y) := cut_plain (HQ.out.1 rfl) HK1.out (fun u => kn_put L X u) Y
  clear hfb
  go_wp2_with fail
  refine HLI.out.mono ?_
  rintro e w5 ⟨g1, c1, rfl, ho5, hB5⟩
  have HO5 : Hid (OwnS w5 w4.heap.size g1 c1 (putL L X.toList)) := ho5
  have HB5 : Hid (Below w1.heap.size w1 w5 ∧ Below w.heap.size w w5) := ⟨HB4.out.1.trans (hB5.mono HB4.out.1.size), HB4.out.2.trans (hB5.mono HB4.out.2.size)⟩
  clear ho5 hB5
  obtain ⟨M, hMM⟩ : ∃ M, M = putL L X.toList := ⟨_, rfl⟩
  rw [← hMM] at HK1 HZ1 HO5 HCUT ⊢
  obtain ⟨r, hr⟩ : ∃ r : Bool, r = true ↔ CanT (atL L) L.length Y := ⟨_, @decide_eq_true_iff _ (Classical.propDecidable _)⟩
  have HC1 : Hid (Calls Tryd.prog 16 #[.slice (some ⟨g1, 0, none⟩) M.length c1, .string Y] w5 fun e w' => e = .returned (.bool r) ∧ Below w5.heap.size w5 w') :=
    canI M g1 c1 w4.heap.size Y w5 HO5.out HZ1.out HYS.out (HP.out.below HB5.out.2) r (hr.trans HCUT.out.symm)
  have HC2 : Hid (∀ v, Below w1.heap.size w1 v → Below w.heap.size w v → Calls Tryd.prog 16 #[.slice (some ⟨g, 0, none⟩) m c, .string Y] v fun e w' => e = .returned (.bool r) ∧ Below v.heap.size v w') := fun v hv hw => by
    rw [HM.out]
    exact canI L g c w.heap.size Y v (HO1.out.below hv) HL.out.2.sizes HYS.out (HP.out.below hw) r hr
  obtain ⟨mm, hmm⟩ : ∃ mm, mm = M.length := ⟨_, rfl⟩
  rw [← hmm] at HC1 ⊢
  clear hMM hr hmm
  go_wp2_with fail
  refine HC1.out.mono ?_
  rintro e w6 ⟨rfl, hB6⟩
  have HB6 : Hid (Below w1.heap.size w1 w6 ∧ Below w.heap.size w w6) := ⟨HB5.out.1.trans (hB6.mono HB5.out.1.size), HB5.out.2.trans (hB6.mono HB5.out.2.size)⟩
  clear hB6
  go_wp2_with fail
  refine (HC2.out w6 HB6.out.1 HB6.out.2).mono ?_
  rintro e w7 ⟨rfl, hB7⟩
  have HB7 : Hid (Below w.heap.size w w7) := HB6.out.2.trans (hB7.mono HB6.out.2.size)
  have hrr : (r == r) = true := by simp
  clear hB7
  go_wp2
  go_ret
  exact ⟨rfl, HB7.out⟩
end Go.Proofs.YtpcbhjejpebogaaDoor
