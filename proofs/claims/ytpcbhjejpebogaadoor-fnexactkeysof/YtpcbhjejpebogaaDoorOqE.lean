/-
  CanMake, the program's and the specification's: one answer. No condition but that the slice reads, the text is no longer than the law lets it be, and the table of powers of ten lies.
-/
import Derived.Test.YtpcbhjejpebogaaDoorOqD
import Derived.Test.YtpcbhjejpebogaaDoorTgS
namespace Go.Proofs.YtpcbhjejpebogaaDoor
open Go.RowKit Go.Maps
set_option linter.unusedVariables false

/-- can be made of what P holds -/
def MkT (P : Tr → Prop) : Tr → Prop
  | ⟨.inl (k, n)⟩ => P ⟨.inl (k, n)⟩ ∨ k ≠ 2
  | ⟨.inr (.inl u)⟩ => P ⟨.inr (.inl u)⟩ ∨ MkT P u
  | ⟨.inr (.inr (.inl (a, b)))⟩ => P ⟨.inr (.inr (.inl (a, b)))⟩ ∨ (MkT P a ∧ MkT P b)
  | ⟨.inr (.inr (.inr (k, n, a)))⟩ => P ⟨.inr (.inr (.inr (k, n, a)))⟩ ∨ (P (keyT n) ∧ MkT P a)
theorem mkP_iff {p : Tr → Bool} {P : Tr → Prop} (h : ∀ u, p u = true ↔ P u) : ∀ t : Tr, mkP p t = true ↔ MkT P t
  | ⟨.inl (k, n)⟩ => by
    rw [mkP, MkT, Bool.or_eq_true, h]
    have e : (!((k : Int) == 2)) = true ↔ k ≠ 2 := by
      rw [Bool.not_eq_true', beq_eq_false_iff_ne]
      omega
    rw [e]
  | ⟨.inr (.inl u)⟩ => by rw [mkP, MkT, Bool.or_eq_true, h, mkP_iff h u]
  | ⟨.inr (.inr (.inl (a, b)))⟩ => by rw [mkP, MkT, Bool.or_eq_true, h, Bool.and_eq_true, mkP_iff h a, mkP_iff h b]
  | ⟨.inr (.inr (.inr (k, n, a)))⟩ => by rw [mkP, MkT, Bool.or_eq_true, h, Bool.and_eq_true, h, mkP_iff h a]
/-- the term of a text can be made of the known texts -/
def CanT (S : Nat → ByteArray) (len : Nat) (s : ByteArray) : Prop := knownB S len = true ∧ ∃ t, Fit t ∧ t.txt = s ∧ MkT (fun u => OpT S len u.txt.toList) t
theorem CanT.at {S : Nat → ByteArray} {len : Nat} {t : Tr} (hf : Fit t) (hq : knownB S len = true) : CanT S len t.txt ↔ MkT (fun u => OpT S len u.txt.toList) t :=
  ⟨fun ⟨_, u, h1, h2, h3⟩ => by rw [← txt_inj h1 hf (by rw [h2])]; exact h3, fun h => ⟨hq, t, hf, rfl, h⟩⟩
theorem canT_bad {S : Nat → ByteArray} {len : Nat} {s : ByteArray} (h : knownB S len = false ∨ rT s = none) : ¬ CanT S len s := fun ⟨h1, t, h2, h3, _⟩ => by
  rcases h with h | h
  · rw [h] at h1; cases h1
  · rw [← h3, rT_txt h2.1 h2.2.1 h2.2.2] at h; cases h

set_option maxRecDepth 8000 in
set_option maxHeartbeats 4000000 in
theorem implCanMake_any (a : Option Addr) (len cap : Nat) (S : Nat → ByteArray) (s : ByteArray) (w : World) (h : IsStrs w a len cap S) (hS : ∀ i, i < len → (S i).size ≤ 1048576) (hs : s.size ≤ 1048576) (hP : Pow w) :
    Calls Tryd.prog 16 #[.slice a len cap, .string s] w fun e w' => ∃ b, e = .returned (.bool b) ∧ (b = true ↔ CanT S len s) ∧ Below w.heap.size w w' := by
  have HK : Hid (Calls Tryd.prog 34 #[.slice a len cap] w fun e w' => (∃ v, e = .returned (.tuple #[v, .bool (knownB S len)]) ∧ (knownB S len = true → ∃ L, TrL S len L ∧ w'.ownsRow w.heap.size 63 1 v len (L.map Tr.val))) ∧ Below w.heap.size w w') := knownTermsL_any a len cap S w h hS
  have HP : Hid (Pow w) := hP
  have HSS : Hid (s.size ≤ 1048576) := hs
  clear h hP hs
  cases hq : knownB S len with
  | false =>
    rw [hq] at HK
    have HQ : Hid (knownB S len = false) := hq
    clear hq
    go_enter Tryd.func16, Tryd.ntmps16
    go_wp2_with fail
    refine HK.out.mono ?_
    rintro e w1 ⟨⟨v, rfl, _⟩, hB1⟩
    have HB1 : Hid (Below w.heap.size w w1) := hB1
    clear hB1
    go_wp2
    go_ret
    exact ⟨false, rfl, ⟨fun h => (by cases h), fun h => absurd h (canT_bad (.inl HQ.out))⟩, HB1.out⟩
  | true =>
    rw [hq] at HK
    have HQ : Hid (knownB S len = true) := hq
    clear hq
    go_enter Tryd.func16, Tryd.ntmps16
    go_wp2_with fail
    refine HK.out.mono ?_
    rintro e w1 ⟨⟨v, rfl, hL⟩, hB1⟩
    obtain ⟨L, hT, hO⟩ := hL (by simp)
    have HT : Hid (TrL S len L) := hT
    have HB1 : Hid (Below w.heap.size w w1) := hB1
    obtain ⟨ta, tc, rfl, hIT⟩ : ∃ ta tc, v = .slice ta len tc ∧ IsTs w1 ta tc L := by
      have hl : L.length = len := hT.1
      rcases hO.2 with ⟨e1, e2⟩ | ⟨g, c, cur, e, _, hg, h1, h2, _⟩
      · exact ⟨none, 0, by rw [e1, e2], by omega, by decide, fun hp => by omega⟩
      · refine ⟨_, c, e, by omega, h2, fun _ => ⟨g, rfl, lt_of_block hg, fun i t ht => ?_⟩⟩
        have := hO.cells (g := g) (by rw [e]; rfl) i t.val (by rw [List.getElem?_map, ht]; rfl)
        rw [add_at, Nat.zero_add] at this
        exact this
    have hl30 : len ≤ 30 := (known_of HQ.out).1
    have HIT : Hid (IsTs w1 ta tc L) := hIT
    have HL30 : Hid (len ≤ 30) := hl30
    clear hL hT hO hB1 hIT hl30
    cases hrt : rT s with
    | none =>
      have HRT : Hid (rT s = none) := hrt
      go_wp2_with fail
      refine (termOfText_any s w1 HSS.out).mono ?_
      rintro e w2 ⟨rfl, hB2⟩
      rw [hrt]
      dsimp only [tup2]
      have HB2 : Hid (Below w.heap.size w w2) := HB1.out.trans (hB2.mono HB1.out.size)
      clear hB2 hrt
      go_wp2
      go_ret
      exact ⟨false, rfl, ⟨fun h => (by cases h), fun h => absurd h (canT_bad (.inr HRT.out))⟩, HB2.out⟩
    | some v =>
      obtain ⟨t, htv, hfit, htx⟩ := rT_fit hrt
      have HTT : Hid (t.val = v ∧ Fit t ∧ t.txt = s) := ⟨htv, hfit, htx⟩
      obtain ⟨T, u, rfl⟩ := rT_iface hrt
      clear htv hfit htx
      go_wp2_with fail
      refine (termOfText_any s w1 HSS.out).mono ?_
      rintro e w2 ⟨rfl, hB2⟩
      rw [hrt]
      dsimp only [tup2]
      have HB2 : Hid (Below w.heap.size w w2) := HB1.out.trans (hB2.mono HB1.out.size)
      have HI2 : Hid (IsTs w2 ta tc L) := ⟨HIT.out.1, HIT.out.2.1, fun h0 => by
        obtain ⟨g, e, h1, h2⟩ := HIT.out.2.2 h0
        exact ⟨g, e, Nat.lt_of_lt_of_le h1 hB2.size, fun i t ht => (hB2.cell (p := ⟨g, i, none⟩) h1).trans (h2 i t ht)⟩⟩
      clear hB2 hrt
      have HOP : Hid (Calls Tryd.prog 37 #[.slice ta len tc] w2 fun e w' => ∃ E, e = .returned (.map (some w2.heap.size)) ∧ SetOf w' w2.heap.size 4000 E ∧ (∀ x, has E (.string x) = true ↔ ∃ t, Op (fun u => u ∈ L) t ∧ t.txt.toList = x) ∧ Below w2.heap.size w2 w') := by
        have h1 := openedOf_any ta tc L w2 HI2.out (fun t ht => ((HT.out.mem t).1 ht).1) (by rw [HT.out.1]; have := HL30.out; omega) (HP.out.below HB2.out)
        rw [HT.out.1] at h1
        exact h1
      go_wp2_with fail
      refine HOP.out.mono ?_
      rintro e w3 ⟨E, rfl, hSE, hE, hB3⟩
      have HE : Hid (∀ u : Tr, hasE E u = true ↔ OpT S len u.txt.toList) := fun u => by
        show has E (.string u.txt.toList) = true ↔ _
        rw [hE]
        exact exists_congr fun t => and_congr ⟨fun ho => ho.mono fun u hu => (HT.out.mem u).1 hu, fun ho => ho.mono fun u hu => (HT.out.mem u).2 hu⟩ Iff.rfl
      have HB3 : Hid (Below w.heap.size w w3) := HB2.out.trans (hB3.mono HB2.out.size)
      have HC : Hid (Calls Tryd.prog 42 #[.map (some w2.heap.size), .iface T u] w3 fun e w' => e = .returned (.bool (mkP (hasE E) t)) ∧ Below w3.heap.size w3 w') := by
        have h1 := canBeMade_any (B := w2.heap.size) (nn := 4000) (E := E) t HTT.out.2.1 w3 hSE (HP.out.below HB3.out)
        rw [HTT.out.1] at h1
        exact h1
      clear hSE hE hB3 HOP HK
      go_wp2_with fail
      refine HC.out.mono ?_
      rintro e w4 ⟨rfl, hB4⟩
      have HB4 : Hid (Below w.heap.size w w4) := HB3.out.trans (hB4.mono HB3.out.size)
      clear hB4
      go_wp2
      go_ret
      refine ⟨_, rfl, ?_, HB4.out⟩
      rw [mkP_iff HE.out t, ← HTT.out.2.2, CanT.at HTT.out.2.1 HQ.out]

set_option maxRecDepth 8000 in
set_option maxHeartbeats 4000000 in
theorem specCanMake_any (a : Option Addr) (len cap : Nat) (S : Nat → ByteArray) (s : ByteArray) (w : World) (h : IsStrs w a len cap S) (hS : ∀ i, i < len → (S i).size ≤ 1048576) (hs : s.size ≤ 1048576) :
    Calls Tryd.prog 15 #[.slice a len cap, .string s] w fun e w' => ∃ b, e = .returned (.bool b) ∧ (b = true ↔ CanT S len s) ∧ Below w.heap.size w w' := by
  have HK : Hid (∀ v, Below w.heap.size w v → Calls Tryd.prog 31 #[.slice a len cap] v fun e w' => e = .returned (.bool (knownB S len)) ∧ Below v.heap.size v w') := fun v hB => specKnown_any a len cap S v (h.below hB) hS
  have HI : Hid (IsStrs w a len cap S) := h
  clear h
  cases hrt : rT s with
  | none =>
    have HR : Hid (Calls Tryd.prog 39 #[.string s] w fun e w' => e = .returned (.tuple #[.slice none 0 0, .bool false]) ∧ Below w.heap.size w w') := specRead_no s w hs hrt
    have HRT : Hid (rT s = none) := hrt
    clear hrt hs
    go_enter Tryd.func15, Tryd.ntmps15
    go_wp2_with fail
    refine HR.out.mono ?_
    rintro e w1 ⟨rfl, hB1⟩
    have HB1 : Hid (Below w.heap.size w w1) := hB1
    clear hB1
    obtain ⟨q, hq⟩ : ∃ q, q = knownB S len := ⟨_, rfl⟩
    rw [← hq] at HK
    go_wp2_with fail
    refine (HK.out w1 HB1.out).mono ?_
    rintro e w2 ⟨rfl, hB2⟩
    have HB2 : Hid (Below w.heap.size w w2) := HB1.out.trans (hB2.mono HB1.out.size)
    clear hB2 hq
    cases q with
    | false =>
      go_wp2
      go_ret
      exact ⟨false, rfl, ⟨fun h => (by cases h), fun h => absurd h (canT_bad (.inr HRT.out))⟩, HB2.out⟩
    | true =>
      go_wp2
      go_ret
      exact ⟨false, rfl, ⟨fun h => (by cases h), fun h => absurd h (canT_bad (.inr HRT.out))⟩, HB2.out⟩
  | some v =>
    obtain ⟨t, htv, hfit, htx⟩ := rT_fit hrt
    have hR := readFit t hfit w
    rw [htx] at hR
    obtain ⟨z, hz⟩ : ∃ z, z = t.size := ⟨_, rfl⟩
    rw [← hz] at hR
    have HR : Hid (Calls Tryd.prog 39 #[.string s] w fun e w' => ∃ a cap, e = .returned (.tuple #[.slice a z cap, .bool true]) ∧ IsNodes w' a z cap (ndK (t.flat 0)) (ndN (t.flat 0)) (ndA (t.flat 0)) (ndB (t.flat 0)) ∧ Below w.heap.size w w') := hR
    have hz1 : 1 ≤ z := by rw [hz]; exact Tr.size_pos t
    have hz2 : z ≤ 40 := by rw [hz]; exact hfit.2.1
    obtain ⟨m, hm⟩ : ∃ m, m = z - 1 := ⟨_, rfl⟩
    have hmI : (z : Int) - 1 = (m : Int) := by omega
    have hmw : IntKind.i64.wrap ((z : Int) - 1) = (m : Int) := by rw [IntKind.wrap_i64]; omega
    have HTT : Hid (Fit t ∧ t.txt = s ∧ z = t.size ∧ m + 1 = 0 + t.size ∧ m < z ∧ z ≤ 40) := ⟨hfit, htx, hz, by omega, by omega, hz2⟩
    have hmz : m < z := by omega
    have hmzI : (m : Int) < (z : Int) := by omega
    have hm0 : (0 : Int) ≤ (m : Int) := by omega
    clear hrt hs htv hfit htx hR hz hm
    obtain ⟨q, hq⟩ : ∃ q, q = knownB S len := ⟨_, rfl⟩
    have HQ : Hid (q = knownB S len) := hq
    rw [← hq] at HK
    clear hq
    go_enter Tryd.func15, Tryd.ntmps15
    go_wp2_with fail
    refine HR.out.mono ?_
    rintro e w1 ⟨ra, rc, rfl, hN, hB1⟩
    have HB1 : Hid (Below w.heap.size w w1) := hB1
    have HN : Hid (IsNodes w1 ra z rc (ndK (t.flat 0)) (ndN (t.flat 0)) (ndA (t.flat 0)) (ndB (t.flat 0))) := hN
    clear hB1 hN
    go_wp2_with fail
    refine (HK.out w1 HB1.out).mono ?_
    rintro e w2 ⟨rfl, hB2⟩
    have HB2 : Hid (Below w.heap.size w w2) := HB1.out.trans (hB2.mono HB1.out.size)
    have HN2 : Hid (IsNodes w2 ra z rc (ndK (t.flat 0)) (ndN (t.flat 0)) (ndA (t.flat 0)) (ndB (t.flat 0))) := HN.out.below hB2
    clear hB2
    cases q with
    | false =>
      go_wp2
      go_ret
      exact ⟨false, rfl, ⟨fun h => (by cases h), fun h => absurd h (canT_bad (.inl HQ.out.symm))⟩, HB2.out⟩
    | true =>
      have HO : Hid (Calls Tryd.prog 33 #[.slice a len cap] w2 fun e w' => ∃ go oc L, e = .returned (.slice (some ⟨go, 0, none⟩) L.length oc) ∧ OwnS w' w2.heap.size go oc L ∧ Up L ∧ (∀ x, x ∈ L ↔ OpT S len x) ∧ Below w2.heap.size w2 w') := l2Opened_any S len a cap w2 (HI.out.below HB2.out) (known_w HQ.out.symm)
      go_wp2_with fail
      refine HO.out.mono ?_
      rintro e w3 ⟨go, oc, L, rfl, ho, hU, hM, hB3⟩
      have HB3 : Hid (Below w.heap.size w w3) := HB2.out.trans (hB3.mono HB2.out.size)
      have HE : Hid (∀ u : Tr, inM L u = true ↔ OpT S len u.txt.toList) := fun u => by unfold inM; rw [decide_eq_true_eq]; exact hM _
      have HC : Hid (Calls Tryd.prog 40 #[.slice (some ⟨go, 0, none⟩) L.length oc, .slice ra z rc, .int .i64 (m : Int)] w3 fun e w' => e = .returned (.bool (mkP (inM L) t)) ∧ Below w3.heap.size w3 w') :=
        l2Makes_any HTT.out.2.2.2.2.2 t 0 m HTT.out.1 (sits_nodes t) HTT.out.2.2.2.1 HTT.out.2.2.2.2.1 w3 (HN2.out.below hB3) ho
      have hcp := ho.caps
      obtain ⟨ml, hml⟩ : ∃ ml, ml = L.length := ⟨_, rfl⟩
      rw [← hml] at HC hcp ⊢
      obtain ⟨hcp1, hcp2⟩ := hcp
      clear ho hU hM hB3 HO hml
      go_wp2_with fail
      refine HC.out.mono ?_
      rintro e w4 ⟨rfl, hB4⟩
      have HB4 : Hid (Below w.heap.size w w4) := HB3.out.trans (hB4.mono HB3.out.size)
      clear hB4
      go_wp2
      go_ret
      refine ⟨_, rfl, ?_, HB4.out⟩
      rw [mkP_iff HE.out t, ← HTT.out.2.1, CanT.at HTT.out.1 HQ.out.symm]

/-- the law's walk -/
theorem canmake_walk (u : Option Addr) (m uc : Nat) (S : Nat → ByteArray) (s : ByteArray) (w : World) (hS : IsStrs w u m uc S) (hSs : ∀ i, i < m → (S i).size ≤ 9223372036854775807) (hz : s.size ≤ 9223372036854775807) (hP : Pow w) :
    Calls Tryd.prog 4 #[.slice u m uc, .string s] w fun e w' => e = .returned (.bool true) ∧ Below w.heap.size w w' := by
  have HP : Hid (Pow w) := hP
  clear hP
  have hzI : (s.size : Int) ≤ 9223372036854775807 := by omega
  by_cases hbig : 1048576 < s.size
  · have hbI : (1048576 : Int) < (s.size : Int) := by omega
    go_enter Tryd.func4, Tryd.ntmps4
    go_wp2
    go_ret
    exact ⟨rfl, Below.refl _ _⟩
  have hbI : ¬ (1048576 : Int) < (s.size : Int) := by omega
  have HSZ : Hid (s.size ≤ 1048576) := by show _ ≤ _; omega
  go_enter Tryd.func4, Tryd.ntmps4
  go_wp2_with fail
  refine (szStringS_any u m uc S _ hS hSs).mono ?_
  rintro e w1' ⟨r', rfl, hr', hw⟩
  rw [hw]
  clear hw w1'
  rcases hr' with hr' | ⟨hr', hml, hms⟩
  · go_wp2
    go_ret
    exact ⟨rfl, Below.refl _ _⟩
  go_wp2_with fail
  refine (toStrs_own u m uc S _ hS hml).mono ?_
  rintro e w2 ⟨t2, rfl, j2, hB2, _, r2⟩
  have b2 := hB2
  go_wp2_with fail
  refine (specCanMake_any (some ⟨t2, 0, none⟩) m m S s _ j2 hms HSZ.out).mono ?_
  rintro e w3 ⟨q, rfl, hq, hB3⟩
  have b3 := b2.trans (hB3.mono b2.size)
  have HQ : Hid (q = true ↔ CanT S m s) := hq
  clear hq hB2 hB3 j2 r2
  go_wp2_with fail
  refine (toStrs_own u m uc S _ (hS.below b3) hml).mono ?_
  rintro e w5 ⟨t5, rfl, j5, hB5, ht5, r5⟩
  have b5 := b3.trans (hB5.mono b3.size)
  go_wp2_with fail
  refine (implCanMake_any (some ⟨t5, 0, none⟩) m m S s _ j5 hms HSZ.out (HP.out.below b5)).mono ?_
  rintro e w6 ⟨q6, rfl, hq6, hB6⟩
  obtain rfl : q6 = q := by rw [Bool.eq_iff_iff, hq6, HQ.out]
  have b6 := b5.trans (hB6.mono b5.size)
  have hqq : (q6 != q6) = false := by simp
  clear hq6
  go_wp2_with fail
  refine (toStrs_own u m uc S _ (hS.below b6) hml).mono ?_
  rintro e w7 ⟨t7, rfl, j7, hB7, _, _⟩
  have b7 := b6.trans (hB7.mono b6.size)
  have j67 := (j5.below hB6).below hB7
  clear hB5 hB6 hB7 r5 j5
  go_wp2_with fail
  refine (eqStringS_same _ _ _ _ _ _ _ j67 j7).mono ?_
  rintro e w8 ⟨rfl, hB8⟩
  have b8 := b7.trans (hB8.mono b7.size)
  clear hB8 j67 j7
  go_wp2
  go_ret
  exact ⟨rfl, b8⟩
end Go.Proofs.YtpcbhjejpebogaaDoor
