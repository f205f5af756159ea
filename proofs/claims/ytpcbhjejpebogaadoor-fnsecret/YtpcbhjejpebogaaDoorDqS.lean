/-
  The law FnSecret returns true at every code. Conditions: the code reads as bytes; the table of powers of ten lies.
-/
import Derived.Test.YtpcbhjejpebogaaDoorDqQ
import Derived.Test.YtpcbhjejpebogaaDoorDqW
import Derived.Test.YtpcbhjejpebogaaDoorLIm
namespace Go.Proofs.YtpcbhjejpebogaaDoor
open Go.RowKit Go.Maps
set_option linter.unusedVariables false

/-- both CanMakes at a list of one's own -/
theorem canI (L : List (List UInt8)) (g c base : Nat) (s : ByteArray) (w : World) (hO : OwnS w base g c L) (hS : ∀ i, i < L.length → (atL L i).size ≤ 1048576) (hs : s.size ≤ 1048576) (hP : Pow w) (b : Bool) (hb : b = true ↔ CanT (atL L) L.length s) :
    Calls Tryd.prog 16 #[.slice (some ⟨g, 0, none⟩) L.length c, .string s] w fun e w' => e = .returned (.bool b) ∧ Below w.heap.size w w' :=
  (implCanMake_any _ _ _ _ s w hO.strs hS hs hP).mono (by
    rintro e w' ⟨q, rfl, hq, hB⟩
    exact ⟨ret_b (by rw [Bool.eq_iff_iff, hq, hb]), hB⟩)
theorem canS (L : List (List UInt8)) (g c base : Nat) (s : ByteArray) (w : World) (hO : OwnS w base g c L) (hS : ∀ i, i < L.length → (atL L i).size ≤ 1048576) (hs : s.size ≤ 1048576) (b : Bool) (hb : b = true ↔ CanT (atL L) L.length s) :
    Calls Tryd.prog 15 #[.slice (some ⟨g, 0, none⟩) L.length c, .string s] w fun e w' => e = .returned (.bool b) ∧ Below w.heap.size w w' :=
  (specCanMake_any _ _ _ _ s w hO.strs hS hs).mono (by
    rintro e w' ⟨q, rfl, hq, hB⟩
    exact ⟨ret_b (by rw [Bool.eq_iff_iff, hq, hb]), hB⟩)
theorem put_small {L : List (List UInt8)} {t : ByteArray} (hS : ∀ i, i < L.length → (atL L i).size ≤ 1048576) (ht : t.size ≤ 1048576) : ∀ i, i < (putL L t.toList).length → (atL (putL L t.toList) i).size ≤ 1048576 := by
  have h := put_sizes (S := atL L) (n := L.length) hS ht
  rw [LLa] at h
  exact h
theorem learnI (L : List (List UInt8)) (g c base : Nat) (t : ByteArray) (w : World) (hO : OwnS w base g c L) (hS : ∀ i, i < L.length → (atL L i).size ≤ 1048576) (ht : t.size ≤ 1048576) (hr : lrB (atL L) L.length t = true) :
    Calls Tryd.prog 29 #[.slice (some ⟨g, 0, none⟩) L.length c, .string t] w fun e w' => ∃ g' c', e = .returned (.tuple #[.slice (some ⟨g', 0, none⟩) (putL L t.toList).length c', .bool true]) ∧ OwnS w' w.heap.size g' c' (putL L t.toList) ∧ Below w.heap.size w w' :=
  (implLearned_any g L.length c (atL L) t w hO.strs hS ht).mono (by
    rintro e w' ⟨v, rfl, ho, hB⟩
    rw [hr]
    rw [(lr_true hr).1] at ho
    obtain ⟨g', c', rfl, hf⟩ := own_form ho (L := putL L t.toList) rfl rfl (fun e => by
      have h1 := ho
      unfold OwnL at h1
      rw [e] at h1
      rcases h1.2 with ⟨_, h2⟩ | ⟨g2, c2, cur, h2, _⟩
      · exact putL_nonempty t.toList L (List.eq_nil_of_length_eq_zero h2)
      · cases h2)
    exact ⟨g', c', rfl, hf, hB⟩)

set_option maxRecDepth 8000 in
set_option maxHeartbeats 8000000 in
theorem secret_walk {u : Option Addr} {len cap : Nat} {Z : Nat → Int} (w : World) (hU : IsU8 w u len cap Z) (hP : Pow w) :
    Calls Tryd.prog 7 #[.slice u len cap] w fun e w' => e = .returned (.bool true) ∧ Below w.heap.size w w' := by
  have HP : Hid (Pow w) := hP
  clear hP
  go_enter Tryd.func7, Tryd.ntmps7
  obtain ⟨bg, hbg⟩ : ∃ bg, bg = decide ((1048576 : Int) < (len : Int)) := ⟨_, rfl⟩
  go_wp2_with fail
  refine (bigD_any u len cap w).mono ?_
  rintro e w0 ⟨rfl, hw0⟩
  rw [hw0, ← hbg]
  clear hw0 w0 hbg
  cases bg with
  | true =>
    go_wp2
    go_ret
    exact ⟨rfl, Below.refl _ _⟩
  | false =>
  go_wp2_with fail
  refine (drawOpened_any u len cap Z w hU).mono ?_
  rintro e w1 ⟨g, c, L, rfl, ho, hl, hk, hB1⟩
  have HO1 : Hid (OwnS w1 w.heap.size g c L) := ho
  have HL : Hid (L.length ≤ 8 ∧ KLow L) := ⟨hl, hk⟩
  have HB1 : Hid (Below w.heap.size w w1) := hB1
  obtain ⟨q, hq⟩ : ∃ q : Bool, q = true ↔ CanT (atL L) L.length (keyT 500).txt := ⟨_, @decide_eq_true_iff _ (Classical.propDecidable _)⟩
  have HQ : Hid (q = true ↔ CanT (atL L) L.length (keyT 500).txt) := hq
  obtain ⟨kn, hkn⟩ : ∃ kn, kn = knownB (atL L) L.length := ⟨_, rfl⟩
  have HKN : Hid (kn = knownB (atL L) L.length) := hkn
  have HCI : Hid (∀ v, Below w1.heap.size w1 v → Below w.heap.size w v → Calls Tryd.prog 16 #[.slice (some ⟨g, 0, none⟩) L.length c, .string ⟨#[107, 53, 48, 48]⟩] v fun e w' => e = .returned (.bool q) ∧ Below v.heap.size v w') := fun v hv hw => by
    have h1 := canI L g c w.heap.size (keyT 500).txt v (HO1.out.below hv) HL.out.2.sizes (by rw [seK_txt]; decide) (HP.out.below hw) q HQ.out
    rw [seK_txt] at h1
    exact h1
  have HCS : Hid (∀ v, Below w1.heap.size w1 v → Calls Tryd.prog 15 #[.slice (some ⟨g, 0, none⟩) L.length c, .string ⟨#[107, 53, 48, 48]⟩] v fun e w' => e = .returned (.bool q) ∧ Below v.heap.size v w') := fun v hv => by
    have h1 := canS L g c w.heap.size (keyT 500).txt v (HO1.out.below hv) HL.out.2.sizes (by rw [seK_txt]; decide) q HQ.out
    rw [seK_txt] at h1
    exact h1
  have HK : Hid (∀ v, Below w1.heap.size w1 v → Calls Tryd.prog 31 #[.slice (some ⟨g, 0, none⟩) L.length c] v fun e w' => e = .returned (.bool kn) ∧ Below v.heap.size v w') := fun v hB => by
    rw [HKN.out]
    exact specKnown_any _ _ _ _ v (HO1.out.below hB).strs HL.out.2.sizes
  obtain ⟨m, hm⟩ : ∃ m, m = L.length := ⟨_, rfl⟩
  have HM : Hid (m = L.length) := hm
  rw [← hm] at HCI HCS HK ⊢
  clear ho hl hk hB1 hq hkn hm
  go_wp2_with fail
  refine (HCI.out w1 (Below.refl _ _) HB1.out).mono ?_
  rintro e w2 ⟨rfl, hB2⟩
  have HB2 : Hid (Below w1.heap.size w1 w2 ∧ Below w.heap.size w w2) := ⟨hB2, HB1.out.trans (hB2.mono HB1.out.size)⟩
  clear hB2
  go_wp2_with fail
  refine (HCS.out w2 HB2.out.1).mono ?_
  rintro e w3 ⟨rfl, hB3⟩
  have HB3 : Hid (Below w1.heap.size w1 w3 ∧ Below w.heap.size w w3) := ⟨HB2.out.1.trans (hB3.mono HB2.out.1.size), HB2.out.2.trans (hB3.mono HB2.out.2.size)⟩
  clear hB3
  have hqq : (q != q) = false := by simp
  have hqe : (q == q) = true := by simp
  go_wp2_with fail
  refine (HK.out w3 HB3.out.1).mono ?_
  rintro e w4 ⟨rfl, hB4⟩
  have HB4 : Hid (Below w1.heap.size w1 w4 ∧ Below w.heap.size w w4) := ⟨HB3.out.1.trans (hB4.mono HB3.out.1.size), HB3.out.2.trans (hB4.mono HB3.out.2.size)⟩
  clear hB4
  cases kn with
  | false =>
    go_wp2_with fail
    refine (HCS.out w4 HB4.out.1).mono ?_
    rintro e w5 ⟨rfl, hB5⟩
    have HB5 : Hid (Below w.heap.size w w5) := HB4.out.2.trans (hB5.mono HB4.out.2.size)
    clear hB5
    go_wp2
    go_ret
    exact ⟨rfl, HB5.out⟩
  | true =>
  have hq0 : q = false := by
    cases hq : q with
    | false => rfl
    | true => exact absurd (HQ.out.1 hq) (secret_no HL.out.2 HKN.out.symm)
  subst hq0
  have hlr : lrB (atL L) L.length seE.txt = true := KLow.room HL.out.1 HKN.out.symm seE_fit
  have HLR : Hid (lrB (atL L) L.length seE.txt = true) := hlr
  have HK1 : Hid (knownB (atL (putL L seE.txt.toList)) (putL L seE.txt.toList).length = true) := (lr_true hlr).2
  have HM1 : Hid ((putL L seE.txt.toList).length ≤ 9) := by show _ ≤ _; have h1 := putL_len seE.txt.toList L; have h2 := HL.out.1; omega
  have HZ1 : Hid (∀ i, i < (putL L seE.txt.toList).length → (atL (putL L seE.txt.toList) i).size ≤ 1048576) := put_small HL.out.2.sizes (by rw [seE_txt]; decide)
  clear hlr hqq hqe
  have HLI : Hid (Calls Tryd.prog 29 #[.slice (some ⟨g, 0, none⟩) m c, .string ⟨#[101, 40, 107, 53, 48, 48, 44, 112, 40, 107, 53, 48, 49, 44, 97, 51, 41, 41]⟩] w4 fun e w' => ∃ g' c', e = .returned (.tuple #[.slice (some ⟨g', 0, none⟩) (putL L seE.txt.toList).length c', .bool true]) ∧ OwnS w' w4.heap.size g' c' (putL L seE.txt.toList) ∧ Below w4.heap.size w4 w') := by
    have h1 := learnI L g c w.heap.size seE.txt w4 (HO1.out.below HB4.out.1) HL.out.2.sizes (by rw [seE_txt]; decide) HLR.out
    rw [← HM.out] at h1
    rw [show (Value.string ⟨#[101, 40, 107, 53, 48, 48, 44, 112, 40, 107, 53, 48, 49, 44, 97, 51, 41, 41]⟩) = Value.string seE.txt by rw [seE_txt]]
    exact h1
  go_wp2_with fail
  refine HLI.out.mono ?_
  rintro e w5 ⟨g1, c1, rfl, ho5, hB5⟩
  have HO5 : Hid (OwnS w5 w4.heap.size g1 c1 (putL L seE.txt.toList)) := ho5
  have HB5 : Hid (Below w1.heap.size w1 w5 ∧ Below w.heap.size w w5) := ⟨HB4.out.1.trans (hB5.mono HB4.out.1.size), HB4.out.2.trans (hB5.mono HB4.out.2.size)⟩
  clear ho5 hB5
  obtain ⟨M, hMM⟩ : ∃ M, M = putL L seE.txt.toList := ⟨_, rfl⟩
  have HMM : Hid (M = putL L seE.txt.toList) := hMM
  rw [← hMM] at HK1 HM1 HZ1 HO5 ⊢
  obtain ⟨mm, hmm⟩ : ∃ mm, mm = M.length := ⟨_, rfl⟩
  have HMm : Hid (mm = M.length) := hmm
  rw [← hmm] at HM1 ⊢
  have hm9 : mm ≤ 9 := HM1.out
  clear hMM hmm
  have HLS : Hid (Calls Tryd.prog 32 #[.slice (some ⟨g, 0, none⟩) m c, .string ⟨#[101, 40, 107, 53, 48, 48, 44, 112, 40, 107, 53, 48, 49, 44, 97, 51, 41, 41]⟩] w5 fun e w' => ∃ v, e = .returned (.tuple #[v, .bool true]) ∧ Below w5.heap.size w5 w') := by
    have h1 := specLearned_any g L.length c (atL L) seE.txt w5 (HO1.out.below HB5.out.1).strs (HO1.out.below HB5.out.1).lies.2.1 (by have := HL.out.1; omega) HL.out.2.sizes (by rw [seE_txt]; decide)
    rw [HLR.out, ← HM.out] at h1
    rw [show (Value.string ⟨#[101, 40, 107, 53, 48, 48, 44, 112, 40, 107, 53, 48, 49, 44, 97, 51, 41, 41]⟩) = Value.string seE.txt by rw [seE_txt]]
    exact h1.mono (by rintro e w' ⟨v, rfl, _, hB⟩; exact ⟨v, rfl, hB⟩)
  go_wp2_with fail
  refine HLS.out.mono ?_
  rintro e w6 ⟨v6, rfl, hB6⟩
  have HO6 : Hid (OwnS w6 w4.heap.size g1 c1 M) := HO5.out.below hB6
  have HB6 : Hid (Below w.heap.size w w6) := HB5.out.2.trans (hB6.mono HB5.out.2.size)
  clear hB6
  have hlr2 : lrB (atL M) M.length (keyT 500).txt = true := lr_room HK1.out (by rw [← HMm.out]; omega) (fitKey (by omega))
  have HLR2 : Hid (lrB (atL M) M.length (keyT 500).txt = true) := hlr2
  have HK2 : Hid (knownB (atL (putL M (keyT 500).txt.toList)) (putL M (keyT 500).txt.toList).length = true) := (lr_true hlr2).2
  have HZ2 : Hid (∀ i, i < (putL M (keyT 500).txt.toList).length → (atL (putL M (keyT 500).txt.toList) i).size ≤ 1048576) := put_small HZ1.out (by rw [seK_txt]; decide)
  clear hlr2
  have HLI2 : Hid (Calls Tryd.prog 29 #[.slice (some ⟨g1, 0, none⟩) mm c1, .string ⟨#[107, 53, 48, 48]⟩] w6 fun e w' => ∃ g' c', e = .returned (.tuple #[.slice (some ⟨g', 0, none⟩) (putL M (keyT 500).txt.toList).length c', .bool true]) ∧ OwnS w' w6.heap.size g' c' (putL M (keyT 500).txt.toList) ∧ Below w6.heap.size w6 w') := by
    have h1 := learnI M g1 c1 w4.heap.size (keyT 500).txt w6 HO6.out HZ1.out (by rw [seK_txt]; decide) HLR2.out
    rw [← HMm.out] at h1
    rw [show (Value.string ⟨#[107, 53, 48, 48]⟩) = Value.string (keyT 500).txt by rw [seK_txt]]
    exact h1
  go_wp2_with fail
  refine HLI2.out.mono ?_
  rintro e w7 ⟨g2, c2, rfl, ho7, hB7⟩
  have HO7 : Hid (OwnS w7 w6.heap.size g2 c2 (putL M (keyT 500).txt.toList)) := ho7
  have HM7 : Hid (OwnS w7 w4.heap.size g1 c1 M) := HO6.out.below hB7
  have HB7 : Hid (Below w.heap.size w w7) := HB6.out.trans (hB7.mono HB6.out.size)
  clear ho7 hB7
  obtain ⟨N, hNN⟩ : ∃ N, N = putL M (keyT 500).txt.toList := ⟨_, rfl⟩
  have HNN : Hid (N = putL M (keyT 500).txt.toList) := hNN
  rw [← hNN] at HK2 HZ2 HO7 ⊢
  obtain ⟨nm, hnm⟩ : ∃ nm, nm = N.length := ⟨_, rfl⟩
  have HNm : Hid (nm = N.length) := hnm
  rw [← hnm]
  clear hNN hnm
  have HS : Hid (¬ CanT (atL M) M.length seI.txt ∧ ¬ CanT (atL M) M.length (keyT 500).txt ∧ CanT (atL M) M.length seE.txt) := by
    have h1 := secret_m HL.out.2 (by rw [← HMM.out]; exact HK1.out)
    rw [← HMM.out] at h1
    exact h1
  have HSN : Hid (CanT (atL N) N.length seI.txt) := by
    have h1 := secret_n (L := L) (by rw [← HMM.out, ← HNN.out]; exact HK2.out)
    rw [← HMM.out, ← HNN.out] at h1
    exact h1
  have HC1 : Hid (Calls Tryd.prog 16 #[.slice (some ⟨g1, 0, none⟩) mm c1, .string ⟨#[107, 53, 48, 49]⟩] w7 fun e w' => e = .returned (.bool false) ∧ Below w7.heap.size w7 w') := by
    have h1 := canI M g1 c1 w4.heap.size seI.txt w7 HM7.out HZ1.out (by rw [seI_txt]; decide) (HP.out.below HB7.out) false ⟨fun h => (by cases h), fun h => absurd h HS.out.1⟩
    rw [seI_txt, ← HMm.out] at h1
    exact h1
  go_wp2_with fail
  refine HC1.out.mono ?_
  rintro e w8 ⟨rfl, hB8⟩
  have HM8 : Hid (OwnS w8 w4.heap.size g1 c1 M) := HM7.out.below hB8
  have HO8 : Hid (OwnS w8 w6.heap.size g2 c2 N) := HO7.out.below hB8
  have HB8 : Hid (Below w.heap.size w w8) := HB7.out.trans (hB8.mono HB7.out.size)
  clear hB8
  have HC2 : Hid (Calls Tryd.prog 16 #[.slice (some ⟨g1, 0, none⟩) mm c1, .string ⟨#[107, 53, 48, 48]⟩] w8 fun e w' => e = .returned (.bool false) ∧ Below w8.heap.size w8 w') := by
    have h1 := canI M g1 c1 w4.heap.size (keyT 500).txt w8 HM8.out HZ1.out (by rw [seK_txt]; decide) (HP.out.below HB8.out) false ⟨fun h => (by cases h), fun h => absurd h HS.out.2.1⟩
    rw [seK_txt, ← HMm.out] at h1
    exact h1
  go_wp2_with fail
  refine HC2.out.mono ?_
  rintro e w9 ⟨rfl, hB9⟩
  have HM9 : Hid (OwnS w9 w4.heap.size g1 c1 M) := HM8.out.below hB9
  have HO9 : Hid (OwnS w9 w6.heap.size g2 c2 N) := HO8.out.below hB9
  have HB9 : Hid (Below w.heap.size w w9) := HB8.out.trans (hB9.mono HB8.out.size)
  clear hB9
  have HC3 : Hid (Calls Tryd.prog 16 #[.slice (some ⟨g1, 0, none⟩) mm c1, .string ⟨#[101, 40, 107, 53, 48, 48, 44, 112, 40, 107, 53, 48, 49, 44, 97, 51, 41, 41]⟩] w9 fun e w' => e = .returned (.bool true) ∧ Below w9.heap.size w9 w') := by
    have h1 := canI M g1 c1 w4.heap.size seE.txt w9 HM9.out HZ1.out (by rw [seE_txt]; decide) (HP.out.below HB9.out) true ⟨fun _ => HS.out.2.2, fun _ => rfl⟩
    rw [← HMm.out] at h1
    rw [show (Value.string ⟨#[101, 40, 107, 53, 48, 48, 44, 112, 40, 107, 53, 48, 49, 44, 97, 51, 41, 41]⟩) = Value.string seE.txt by rw [seE_txt]]
    exact h1
  go_wp2_with fail
  refine HC3.out.mono ?_
  rintro e w10 ⟨rfl, hB10⟩
  have HO10 : Hid (OwnS w10 w6.heap.size g2 c2 N) := HO9.out.below hB10
  have HB10 : Hid (Below w.heap.size w w10) := HB9.out.trans (hB10.mono HB9.out.size)
  clear hB10
  have HC4 : Hid (Calls Tryd.prog 16 #[.slice (some ⟨g2, 0, none⟩) nm c2, .string ⟨#[107, 53, 48, 49]⟩] w10 fun e w' => e = .returned (.bool true) ∧ Below w10.heap.size w10 w') := by
    have h1 := canI N g2 c2 w6.heap.size seI.txt w10 HO10.out HZ2.out (by rw [seI_txt]; decide) (HP.out.below HB10.out) true ⟨fun _ => HSN.out, fun _ => rfl⟩
    rw [seI_txt, ← HNm.out] at h1
    exact h1
  go_wp2_with fail
  refine HC4.out.mono ?_
  rintro e w11 ⟨rfl, hB11⟩
  have HB11 : Hid (Below w.heap.size w w11) := HB10.out.trans (hB11.mono HB10.out.size)
  clear hB11
  go_wp2
  go_ret
  exact ⟨rfl, HB11.out⟩
end Go.Proofs.YtpcbhjejpebogaaDoor
