/-
  The law FnMakes returns true at every code. Conditions: the code reads as bytes; the table of powers of ten lies.
-/
import Derived.Test.YtpcbhjejpebogaaGreatDoorTgE
namespace Go.Proofs.YtpcbhjejpebogaaGreatDoor
open Go.RowKit Go.Maps
set_option linter.unusedVariables false

set_option maxHeartbeats 400000 in
theorem lawHas_any (a : Option Addr) (len cap : Nat) (I : Nat → ByteArray) (id : ByteArray) (w : World) (h : IsStrs w a len cap I) :
    Calls Tryz.prog 15 #[.slice a len cap, .string id] w fun e w' => e = .returned (.bool (!(outB I len id))) ∧ w' = w := by
  obtain ⟨hlc, hcm, hc⟩ := h
  go_enter Tryz.func15, Tryz.ntmps15
  go_wp2
  go_loop [5] (fun i => ∃ (k : Nat), k ≤ len ∧ i = .int .i64 k ∧ Hid (outB I k id = true)) (fun i => len - (intOf i).toNat)
  case atStart => exact ⟨0, Nat.zero_le _, rfl, rfl⟩
  case round =>
    obtain ⟨k, hk, rfl, HR⟩ := hrel
    by_cases hlt : k < len
    · obtain ⟨b, off, rfl, hbs, hcell⟩ := hc (by omega)
      have d1 := hcell k hlt
      have hltI : (k : Int) < (len : Int) := by omega
      clear hcell hc
      cases hq : ((I k).toList == id.toList) with
      | true =>
        have hr : Hid (outB I len id = false) := by
          show _ = _
          unfold outB
          rw [allB_false hlt (by rw [hq]; rfl)]
        go_wp2
        go_ret
        exact ⟨ret_bool (by rw [hr.out]; rfl), rfl⟩
      | false =>
        have HR' : Hid (outB I (k + 1) id = true) := by
          show _ = _
          have := HR.out
          unfold outB at this ⊢
          rw [allB_succ, this, hq]; rfl
        go_wp2
        go_round
        case rel => exact ⟨k + 1, by omega, by go_num, HR'⟩
        case measure => simp [intOf]; omega
    · have hke : k = len := by omega
      subst hke
      go_wp2
      go_ret
      exact ⟨ret_bool (by rw [HR.out]; rfl), rfl⟩

/-- both CanMakes at a list of one's own -/
theorem canI' (L : List (List UInt8)) (g c base : Nat) (s : ByteArray) (w : World) (hO : OwnS w base g c L) (hS : ∀ i, i < L.length → (atL L i).size ≤ 1048576) (hs : s.size ≤ 1048576) (hP : Pow w) (b : Bool) (hb : b = true ↔ CanT (atL L) L.length s) :
    Calls Tryz.prog 17 #[.slice (some ⟨g, 0, none⟩) L.length c, .string s] w fun e w' => e = .returned (.bool b) ∧ Below w.heap.size w w' :=
  (implCanMake_any _ _ _ _ s w hO.strs hS hs hP).mono (by
    rintro e w' ⟨q, rfl, hq, hB⟩
    exact ⟨ret_b (by rw [Bool.eq_iff_iff, hq, hb]), hB⟩)
theorem canS' (L : List (List UInt8)) (g c base : Nat) (s : ByteArray) (w : World) (hO : OwnS w base g c L) (hS : ∀ i, i < L.length → (atL L i).size ≤ 1048576) (hs : s.size ≤ 1048576) (b : Bool) (hb : b = true ↔ CanT (atL L) L.length s) :
    Calls Tryz.prog 18 #[.slice (some ⟨g, 0, none⟩) L.length c, .string s] w fun e w' => e = .returned (.bool b) ∧ Below w.heap.size w w' :=
  (specCanMake_any _ _ _ _ s w hO.strs hS hs).mono (by
    rintro e w' ⟨q, rfl, hq, hB⟩
    exact ⟨ret_b (by rw [Bool.eq_iff_iff, hq, hb]), hB⟩)
def a7 : Tr := ⟨.inl (1, 7)⟩
theorem a7_txt : a7.txt = ⟨#[97, 55]⟩ := by unfold a7; rw [Tr.txt]; decide +kernel
theorem mk_pair {P : Tr → Prop} (hP : Shut P) (t : Tr) : MkT P (pairT t a7) ↔ MkT P t := by
  unfold pairT
  rw [MkT]
  constructor
  · rintro (h | h)
    · exact .base (hP.pair t a7 h).1
    · exact h.1
  · intro h
    refine .inr ⟨h, ?_⟩
    unfold a7
    rw [MkT]
    exact .inr (by omega)
theorem mk_hash {P : Tr → Prop} (t : Tr) : MkT P (hashT t) ↔ P (hashT t) ∨ MkT P t := by
  unfold hashT
  rw [MkT]
theorem DT.fitPair {t : Tr} (h : DT t) : Fit (pairT t a7) := ⟨by unfold pairT a7; rw [Tr.Ok, Tr.Ok]; exact ⟨h.1, .inl rfl, by omega⟩, by unfold pairT a7; rw [Tr.size, Tr.size]; have := h.2.1; omega, by unfold pairT a7; rw [Tr.deep, Tr.deep]; have := h.2.2; omega⟩
theorem DT.fitHash {t : Tr} (h : DT t) : Fit (hashT t) := ⟨by unfold hashT; rw [Tr.Ok]; exact h.1, by unfold hashT; rw [Tr.size]; have := h.2.1; omega, by unfold hashT; rw [Tr.deep]; have := h.2.2; omega⟩
theorem pair7_txt (t : Tr) : (pairT t a7).txt = (⟨#[112, 40]⟩ ++ t.txt) ++ ⟨#[44, 97, 55, 41]⟩ := by
  unfold pairT
  rw [Tr.txt, a7_txt, ByteArray.append_assoc, ByteArray.append_assoc]
  rfl
theorem hash_txt (t : Tr) : (hashT t).txt = (⟨#[104, 40]⟩ ++ t.txt) ++ ⟨#[41]⟩ := by
  unfold hashT
  rw [Tr.txt]

set_option maxRecDepth 8000 in
set_option maxHeartbeats 8000000 in
theorem makes_walk {u : Option Addr} {len cap : Nat} {Z : Nat → Int} (w : World) (hU : IsU8 w u len cap Z) (hP : Pow w) :
    Calls Tryz.prog 4 #[.slice u len cap] w fun e w' => e = .returned (.bool true) ∧ Below w.heap.size w w' := by
  have HP : Hid (Pow w) := hP
  clear hP
  go_enter Tryz.func4, Tryz.ntmps4
  obtain ⟨bg, hbg⟩ : ∃ bg, bg = decide ((1048576 : Int) < (len : Int)) := ⟨_, rfl⟩
  go_wp2_with fail
  refine (bigD_any u len cap w).mono ?_
  rintro e w0 ⟨rfl, hw0⟩
  rw [hw0, ← hbg]
  clear hw0 w0 hbg
  cases bg with
  | true =>
    go_wp2
    go_ret
    exact ⟨rfl, Below.refl _ _⟩
  | false =>
  go_wp2_with fail
  refine (drawCanMake_any u len cap Z w hU).mono ?_
  rintro e w1 ⟨g, c, L, t, rfl, ho, hl, hk, ht, hB1⟩
  have HO1 : Hid (OwnS w1 w.heap.size g c L) := ho
  have HL : Hid (L.length ≤ 8 ∧ KLow L) := ⟨hl, hk⟩
  have HT : Hid (DT t) := ht
  have HB1 : Hid (Below w.heap.size w w1) := hB1
  obtain ⟨X, hX⟩ : ∃ X, X = t.txt := ⟨_, rfl⟩
  have HX : Hid (X = t.txt) := hX
  have hxs : X.size ≤ 50000 := by rw [hX]; exact ht.small
  have HXS : Hid (X.size ≤ 1048576) := by show _ ≤ _; omega
  rw [← hX]
  obtain ⟨q, hq⟩ : ∃ q : Bool, q = true ↔ CanT (atL L) L.length X := ⟨_, @decide_eq_true_iff _ (Classical.propDecidable _)⟩
  have HQ : Hid (q = true ↔ CanT (atL L) L.length X) := hq
  obtain ⟨kn, hkn⟩ : ∃ kn, kn = knownB (atL L) L.length := ⟨_, rfl⟩
  have HKN : Hid (kn = knownB (atL L) L.length) := hkn
  have HCI : Hid (∀ v, Below w1.heap.size w1 v → Below w.heap.size w v → ∀ (s : ByteArray) (b : Bool), s.size ≤ 1048576 → (b = true ↔ CanT (atL L) L.length s) → Calls Tryz.prog 17 #[.slice (some ⟨g, 0, none⟩) L.length c, .string s] v fun e w' => e = .returned (.bool b) ∧ Below v.heap.size v w') := fun v hv hw s b hs hb =>
    canI' L g c w.heap.size s v (HO1.out.below hv) HL.out.2.sizes hs (HP.out.below hw) b hb
  have HCS : Hid (∀ v, Below w1.heap.size w1 v → Calls Tryz.prog 18 #[.slice (some ⟨g, 0, none⟩) L.length c, .string X] v fun e w' => e = .returned (.bool q) ∧ Below v.heap.size v w') := fun v hv =>
    canS' L g c w.heap.size X v (HO1.out.below hv) HL.out.2.sizes HXS.out q HQ.out
  have HK : Hid (∀ v, Below w1.heap.size w1 v → Calls Tryz.prog 13 #[.slice (some ⟨g, 0, none⟩) L.length c] v fun e w' => e = .returned (.bool kn) ∧ Below v.heap.size v w') := fun v hB => by
    rw [HKN.out]
    exact specKnown_any _ _ _ _ v (HO1.out.below hB).strs HL.out.2.sizes
  have HOI : Hid (∀ v, Below w1.heap.size w1 v → Below w.heap.size w v → Calls Tryz.prog 8 #[.slice (some ⟨g, 0, none⟩) L.length c] v fun e w' => ∃ v' M, e = .returned v' ∧ OwnL w' v.heap.size v' M ∧ OpR (atL L) L.length M ∧ Below v.heap.size v w') := fun v hv hw =>
    implOpened_any _ _ _ _ v (HO1.out.below hv).strs HL.out.2.sizes (HP.out.below hw)
  obtain ⟨m, hm⟩ : ∃ m, m = L.length := ⟨_, rfl⟩
  have HM : Hid (m = L.length) := hm
  rw [← hm] at HCI HCS HK HOI ⊢
  clear ho hl hk hB1 hq hkn hm hX ht
  go_wp2_with fail
  refine (HCI.out w1 (Below.refl _ _) HB1.out X q HXS.out (by rw [HM.out]; exact HQ.out)).mono ?_
  rintro e w2 ⟨rfl, hB2⟩
  have HB2 : Hid (Below w1.heap.size w1 w2 ∧ Below w.heap.size w w2) := ⟨hB2, HB1.out.trans (hB2.mono HB1.out.size)⟩
  clear hB2
  go_wp2_with fail
  refine (HCS.out w2 HB2.out.1).mono ?_
  rintro e w3 ⟨rfl, hB3⟩
  have HB3 : Hid (Below w1.heap.size w1 w3 ∧ Below w.heap.size w w3) := ⟨HB2.out.1.trans (hB3.mono HB2.out.1.size), HB2.out.2.trans (hB3.mono HB2.out.2.size)⟩
  clear hB3
  have hqq : (q != q) = false := by simp
  have hqe : (q == q) = true := by simp
  go_wp2_with fail
  refine (HK.out w3 HB3.out.1).mono ?_
  rintro e w4 ⟨rfl, hB4⟩
  have HB4 : Hid (Below w1.heap.size w1 w4 ∧ Below w.heap.size w w4) := ⟨HB3.out.1.trans (hB4.mono HB3.out.1.size), HB3.out.2.trans (hB4.mono HB3.out.2.size)⟩
  clear hB4
  cases kn with
  | false =>
    go_wp2_with fail
    refine (HCS.out w4 HB4.out.1).mono ?_
    rintro e w5 ⟨rfl, hB5⟩
    have HB5 : Hid (Below w.heap.size w w5) := HB4.out.2.trans (hB5.mono HB4.out.2.size)
    clear hB5
    go_wp2
    go_ret
    exact ⟨rfl, HB5.out⟩
  | true =>
  go_wp2_with fail
  refine (HOI.out w4 HB4.out.1 HB4.out.2).mono ?_
  rintro e w5 ⟨v, M, rfl, hoM, hMR, hB5⟩
  have HB5 : Hid (Below w1.heap.size w1 w5 ∧ Below w.heap.size w w5) := ⟨HB4.out.1.trans (hB5.mono HB4.out.1.size), HB4.out.2.trans (hB5.mono HB4.out.2.size)⟩
  obtain ⟨ma, mc, rfl, hI, _⟩ := hoM.strs2
  have HI : Hid (IsStrs w5 ma M.length mc (atL M)) := hI
  have HMO : Hid (∀ x, x ∈ M ↔ OpT (atL L) L.length x) := by
    show ∀ x, _
    have h1 := hMR
    rw [HM.out] at h1
    exact (h1.1 HKN.out.symm).2
  have HOK : Hid (∀ i, i < M.length → (atL M i).size ≤ 1048576 ∧ CanT (atL L) L.length (atL M i)) := fun i hi => by
    have hmem : M.getD i [] ∈ M := by
      simp only [List.getD, List.getElem?_eq_getElem hi, Option.getD_some]
      exact List.getElem_mem hi
    obtain ⟨t, ht, e⟩ := (HMO.out _).1 hmem
    have hf := op_fit ht
    have e2 : t.txt = atL M i := bytes_eqP (by rw [e, atL_list])
    rw [← e2]
    exact ⟨by have := Tr.txt_size t hf.1; have := hf.2.1; omega, (CanT.mk hf HKN.out.symm).2 (.base ht)⟩
  obtain ⟨k, hkm⟩ : ∃ k, k = M.length := ⟨_, rfl⟩
  have HKM : Hid (k = M.length) := hkm
  rw [← hkm] at HI HOK ⊢
  clear hoM hMR hB5 hI hkm HOI HK hqq hqe
  have hxs2 : X.size ≤ 50000 := hxs
  have ad1 : ∀ v : World, (Op.stringOp .add ⟨#[112, 40]⟩ X).run Tryz.prog v = .ok (.string (⟨#[112, 40]⟩ ++ X)) v := fun v => add_ok (by have e : (ByteArray.mk #[112, 40]).size = 2 := rfl; omega) v
  have ad2 : ∀ v : World, (Op.stringOp .add (⟨#[112, 40]⟩ ++ X) ⟨#[44, 97, 55, 41]⟩).run Tryz.prog v = .ok (.string ((⟨#[112, 40]⟩ ++ X) ++ ⟨#[44, 97, 55, 41]⟩)) v := fun v => add_ok (by rw [ByteArray.size_append]; have e : (ByteArray.mk #[112, 40]).size = 2 := rfl; have e2 : (ByteArray.mk #[44, 97, 55, 41]).size = 4 := rfl; omega) v
  have ad3 : ∀ v : World, (Op.stringOp .add ⟨#[104, 40]⟩ X).run Tryz.prog v = .ok (.string (⟨#[104, 40]⟩ ++ X)) v := fun v => add_ok (by have e : (ByteArray.mk #[104, 40]).size = 2 := rfl; omega) v
  have ad4 : ∀ v : World, (Op.stringOp .add (⟨#[104, 40]⟩ ++ X) ⟨#[41]⟩).run Tryz.prog v = .ok (.string ((⟨#[104, 40]⟩ ++ X) ++ ⟨#[41]⟩)) v := fun v => add_ok (by rw [ByteArray.size_append]; have e : (ByteArray.mk #[104, 40]).size = 2 := rfl; have e2 : (ByteArray.mk #[41]).size = 1 := rfl; omega) v
  have HPT : Hid ((pairT t a7).txt = (⟨#[112, 40]⟩ ++ X) ++ ⟨#[44, 97, 55, 41]⟩) := by show _ = _; rw [pair7_txt, HX.out]
  have HHT : Hid ((hashT t).txt = (⟨#[104, 40]⟩ ++ X) ++ ⟨#[41]⟩) := by show _ = _; rw [hash_txt, HX.out]
  have HRD : Hid (∀ v : World, Calls Tryz.prog 19 #[.string ((⟨#[112, 40]⟩ ++ X) ++ ⟨#[44, 97, 55, 41]⟩)] v fun e w' => ∃ x, e = .returned (.tuple #[x, .bool true]) ∧ Below v.heap.size v w') := fun v => by
    have h1 := readFit (pairT t a7) HT.out.fitPair v
    rw [HPT.out] at h1
    exact h1.mono (by rintro e w' ⟨a, cap, rfl, _, hB⟩; exact ⟨_, rfl, hB⟩)
  have HCP : Hid (∀ v, Below w1.heap.size w1 v → Below w.heap.size w v → Calls Tryz.prog 17 #[.slice (some ⟨g, 0, none⟩) m c, .string ((⟨#[112, 40]⟩ ++ X) ++ ⟨#[44, 97, 55, 41]⟩)] v fun e w' => e = .returned (.bool q) ∧ Below v.heap.size v w') := fun v hv hw =>
    HCI.out v hv hw _ q (by rw [← HPT.out]; have := Tr.txt_size _ HT.out.fitPair.1; have := HT.out.fitPair.2.1; omega) (by
      have hkn : knownB (atL L) L.length = true := HKN.out.symm
      rw [HQ.out, HM.out, ← HPT.out, HX.out, CanT.mk HT.out.fitPair hkn, CanT.mk HT.out.fit hkn, mk_pair (Op.shut _)])
  obtain ⟨hs, hhs⟩ : ∃ hs, hs = decide (((⟨#[104, 40]⟩ ++ X) ++ ⟨#[41]⟩ : ByteArray).toList ∈ M) := ⟨_, rfl⟩
  have HHS : Hid (hs = decide (((⟨#[104, 40]⟩ ++ X) ++ ⟨#[41]⟩ : ByteArray).toList ∈ M)) := hhs
  have HCH : Hid (∀ v, Below w1.heap.size w1 v → Below w.heap.size w v → Calls Tryz.prog 17 #[.slice (some ⟨g, 0, none⟩) m c, .string ((⟨#[104, 40]⟩ ++ X) ++ ⟨#[41]⟩)] v fun e w' => e = .returned (.bool (q || hs)) ∧ Below v.heap.size v w') := fun v hv hw =>
    HCI.out v hv hw _ (q || hs) (by rw [← HHT.out]; have := Tr.txt_size _ HT.out.fitHash.1; have := HT.out.fitHash.2.1; omega) (by
      have hkn : knownB (atL L) L.length = true := HKN.out.symm
      rw [Bool.or_eq_true, HQ.out, HM.out, HHS.out, decide_eq_true_eq, HMO.out, ← HHT.out, HX.out, opT_fit HT.out.fitHash, CanT.mk HT.out.fitHash hkn, CanT.mk HT.out.fit hkn, mk_hash]
      exact or_comm)
  have HHA : Hid (∀ v, Below w5.heap.size w5 v → Calls Tryz.prog 15 #[.slice ma k mc, .string ((⟨#[104, 40]⟩ ++ X) ++ ⟨#[41]⟩)] v fun e w' => e = .returned (.bool hs) ∧ w' = v) := fun v hB => by
    have h1 := lawHas_any ma k mc (atL M) ((⟨#[104, 40]⟩ ++ X) ++ ⟨#[41]⟩) v (HI.out.below hB)
    have h2 := outB_list M ((⟨#[104, 40]⟩ ++ X) ++ ⟨#[41]⟩)
    rw [← HKM.out] at h2
    rw [h2, ← HHS.out] at h1
    exact h1
  clear hhs hxs
  go_wp2
  go_loopw [7] (fun i wr => ∃ (j : Nat), j ≤ k ∧ j ≤ 12 ∧ i = .int .i64 j ∧ Hid (Below w1.heap.size w1 wr ∧ Below w.heap.size w wr ∧ Below w5.heap.size w5 wr)) (fun i _ => 12 - (intOf i).toNat)
  case atStart => exact ⟨0, by omega, by omega, rfl, HB5.out.1, HB5.out.2, Below.refl _ _⟩
  case round =>
    obtain ⟨j, hj, hj12, rfl, HBR⟩ := hrel
    by_cases hlt : j < k ∧ j < 12
    · have hltI : (j : Int) < (k : Int) := by omega
      have h12I : (j : Int) < 12 := by omega
      obtain ⟨h51, h52, h53⟩ := HI.out
      obtain ⟨b, off, rfl, hbs, hcell⟩ := h53 (by omega)
      have d1 : wr.cell? ⟨b, off + j, none⟩ = some (.string (atL M j)) := (HBR.out.2.2.cell (p := ⟨b, off + j, none⟩) hbs).trans (hcell j hlt.1)
      have hok := HOK.out j hlt.1
      obtain ⟨s, hsj⟩ : ∃ s, s = atL M j := ⟨_, rfl⟩
      rw [← hsj] at d1 hok
      have HC : Hid (Calls Tryz.prog 17 #[.slice (some ⟨g, 0, none⟩) m c, .string s] wr fun e w' => e = .returned (.bool true) ∧ Below wr.heap.size wr w') := HCI.out wr HBR.out.1 HBR.out.2.1 s true hok.1 ⟨fun _ => by rw [HM.out]; exact hok.2, fun _ => rfl⟩
      clear h51 h52 h53 hbs hcell hok hsj
      go_wp2_with fail
      refine HC.out.mono ?_
      rintro e w6 ⟨rfl, hB6⟩
      have HB6 : Hid (Below w1.heap.size w1 w6 ∧ Below w.heap.size w w6 ∧ Below w5.heap.size w5 w6) := ⟨HBR.out.1.trans (hB6.mono HBR.out.1.size), HBR.out.2.1.trans (hB6.mono HBR.out.2.1.size), HBR.out.2.2.trans (hB6.mono HBR.out.2.2.size)⟩
      clear hB6 d1
      go_wp2
      go_roundw
      case rel => exact ⟨j + 1, by omega, by omega, by go_num, HB6⟩
      case measure => simp [intOf]; omega
    · have hex : (¬ (j : Int) < (k : Int)) ∨ ((j : Int) < (k : Int) ∧ ¬ (j : Int) < 12) := by omega
      clear hlt
      rcases hex with hn1 | ⟨hn1, hn2⟩ <;> (
        go_wp2_with fail
        refine (HRD.out wr).mono ?_
        rintro e w6 ⟨x6, rfl, hB6⟩
        have HB6 : Hid (Below w1.heap.size w1 w6 ∧ Below w.heap.size w w6 ∧ Below w5.heap.size w5 w6) := ⟨HBR.out.1.trans (hB6.mono HBR.out.1.size), HBR.out.2.1.trans (hB6.mono HBR.out.2.1.size), HBR.out.2.2.trans (hB6.mono HBR.out.2.2.size)⟩
        clear hB6
        have hqe : (q == q) = true := by simp
        have hhe : ((q || hs) == (q || hs)) = true := by simp
        go_wp2_with fail
        refine (HCP.out w6 HB6.out.1 HB6.out.2.1).mono ?_
        rintro e w7 ⟨rfl, hB7⟩
        have HB7 : Hid (Below w1.heap.size w1 w7 ∧ Below w.heap.size w w7 ∧ Below w5.heap.size w5 w7) := ⟨HB6.out.1.trans (hB7.mono HB6.out.1.size), HB6.out.2.1.trans (hB7.mono HB6.out.2.1.size), HB6.out.2.2.trans (hB7.mono HB6.out.2.2.size)⟩
        clear hB7
        go_wp2_with fail
        refine (HCH.out w7 HB7.out.1 HB7.out.2.1).mono ?_
        rintro e w8 ⟨rfl, hB8⟩
        have HB8 : Hid (Below w1.heap.size w1 w8 ∧ Below w.heap.size w w8 ∧ Below w5.heap.size w5 w8) := ⟨HB7.out.1.trans (hB8.mono HB7.out.1.size), HB7.out.2.1.trans (hB8.mono HB7.out.2.1.size), HB7.out.2.2.trans (hB8.mono HB7.out.2.2.size)⟩
        clear hB8 hqe hhe ad1 ad2 ad3 ad4
        cases q with
        | true =>
          go_wp2
          go_ret
          exact ⟨rfl, HB8.out.2.1⟩
        | false =>
          have hhe : (hs == hs) = true := by simp
          go_wp2_with fail
          refine (HHA.out w8 HB8.out.2.2).mono ?_
          rintro e w9 ⟨rfl, hw9⟩
          rw [hw9]
          clear hw9 w9
          go_wp2
          go_ret
          exact ⟨rfl, HB8.out.2.1⟩)
end Go.Proofs.YtpcbhjejpebogaaGreatDoor
