/-
  The law FnFrames: at every code it returns true, in worlds in which the table halfLeft lies. Condition: the code reads as bytes.
-/
import Derived.Test.YtcknemblniemcaaDoorTkS
import Derived.Test.YtcknemblniemcaaDoorTkJ
import Derived.Test.YtcknemblniemcaaDoorTkF
import Derived.Test.YtcknemblniemcaaDoorFrE
namespace Go.Proofs.YtcknemblniemcaaDoor
open Go.RowKit
set_option linter.unusedVariables false

set_option maxHeartbeats 400000 in
theorem sameT_any (a a' : Option Addr) (len cap cap' : Nat) (S : Nat → ByteArray) (w : World) (h : IsStrs w a len cap S) (h' : IsStrs w a' len cap' S) :
    Calls Tryd.prog 15 #[.slice a len cap, .slice a' len cap'] w fun e w' => e = .returned (.bool true) ∧ Below w.heap.size w w' := by
  obtain ⟨hlc, hcm, hc⟩ := h
  obtain ⟨hlc', hcm', hc'⟩ := h'
  have hbn : ((len : Int) != (len : Int)) = false := by simp
  go_enter Tryd.func15, Tryd.ntmps15
  go_wp2
  go_loopw [5] (fun i wr => ∃ (k : Nat), k ≤ len ∧ i = .int .i64 k ∧ Below w.heap.size w wr)
    (fun i _ => len - (intOf i).toNat)
  case atStart => exact ⟨0, Nat.zero_le _, rfl, Below.refl _ _⟩
  case round =>
    obtain ⟨k, hk, rfl, hB⟩ := hrel
    by_cases hlt : k < len
    · obtain ⟨b, off, rfl, hbs, hcell⟩ := hc (by omega)
      obtain ⟨b', off', rfl, hbs', hcell'⟩ := hc' (by omega)
      have d1 := (hB.cell (p := ⟨b, off + k, none⟩) hbs).trans (hcell k hlt)
      have d1' := (hB.cell (p := ⟨b', off' + k, none⟩) hbs').trans (hcell' k hlt)
      have hss : ((S k).toList != (S k).toList) = false := by simp
      clear hcell hc hcell' hc'
      go_wp2
      go_quiet (fail)
      go_wp2
      go_roundw
      case rel => exact ⟨k + 1, by omega, by go_num, hB.trans ⟨rfl, rfl, rfl, Nat.le_refl _, fun _ _ => rfl⟩⟩
      case measure => simp [intOf]; omega
    · have hke : k = len := by omega
      subst hke
      go_wp2
      go_ret
      exact ⟨rfl, hB⟩

theorem IsStrs.pre {w : World} {a : Option Addr} {len cap j : Nat} {S : Nat → ByteArray} (h : IsStrs w a len cap S) (hj : j ≤ len) : IsStrs w a j cap S := by
  obtain ⟨h1, h2, h3⟩ := h
  refine ⟨Nat.le_trans hj h1, h2, fun h0 => ?_⟩
  obtain ⟨b, off, e, hb, hc⟩ := h3 (by omega)
  exact ⟨b, off, e, hb, fun i hi => hc i (by omega)⟩
theorem IsStrs.of {w : World} {a : Option Addr} {len cap : Nat} {S S' : Nat → ByteArray} (h : IsStrs w a len cap S) (he : ∀ i, i < len → S i = S' i) : IsStrs w a len cap S' := by
  obtain ⟨h1, h2, h3⟩ := h
  refine ⟨h1, h2, fun h0 => ?_⟩
  obtain ⟨b, off, e, hb, hc⟩ := h3 h0
  exact ⟨b, off, e, hb, fun i hi => by rw [← he i hi]; exact hc i hi⟩

theorem IsU8.below {w w' : World} {a : Option Addr} {len cap : Nat} {Z : Nat → Int} (h : IsU8 w a len cap Z) (hB : Below w.heap.size w w') : IsU8 w' a len cap Z := by
  obtain ⟨h1, h2, h3, h4⟩ := h
  refine ⟨h1, h2, h3, fun h0 => ?_⟩
  obtain ⟨b, off, e, hb, hc⟩ := h4 h0
  exact ⟨b, off, e, Nat.lt_of_lt_of_le hb hB.size, fun i hi => (hB.cell (p := ⟨b, off + i, none⟩) hb).trans (hc i hi)⟩

theorem catF_take (L : List (List UInt8)) (k : Nat) (h : k < L.length) : catF (L.take (k + 1)) = catF (L.take k) ++ frameT (atL L k) := by
  rw [List.take_succ_eq_append_getElem h, catF_snoc]
  congr 2
  unfold atL
  simp [h]
theorem catF_le (L : List (List UInt8)) (h : ∀ d ∈ L, d.length ≤ 100000) : ∀ k, k ≤ L.length → (catF (L.take k)).size ≤ k * 100008
  | 0, _ => by rw [List.take_zero]; exact Nat.zero_le _
  | k + 1, hk => by
    have ih := catF_le L h k (by omega)
    rw [catF_take L k (by omega), ByteArray.size_append]
    have hl : (atL L k).size ≤ 100000 := by
      have := h (L.getD k []) (by simp [show k < L.length by omega])
      unfold atL tx
      exact this
    have : (frameT (atL L k)).size ≤ 100008 := by
      unfold frameT
      rw [if_pos hl, ByteArray.size_append, headT_size]
      omega
    omega

set_option maxRecDepth 10000 in
set_option maxHeartbeats 4000000 in
theorem frames_walk {a : Option Addr} {len cap : Nat} {Z : Nat → Int} (w : World) (hU : IsU8 w a len cap Z) (hT : Halves w) :
    Calls Tryd.prog 5 #[.slice a len cap] w fun e w' => e = .returned (.bool true) ∧ Below w.heap.size w w' := by
  by_cases hbig : (1048576 : Int) < (len : Int)
  · go_enter Tryd.func5, Tryd.ntmps5
    go_wp2_with fail
    refine (big_any _ _ _ _).mono ?_
    rintro e w1 ⟨rfl, hw⟩
    rw [hw, decide_eq_true hbig]
    go_wp2
    go_ret
    exact ⟨rfl, Below.refl _ _⟩
  have HN : Hid (decide ((1048576 : Int) < (len : Int)) = false) := decide_eq_false hbig
  have hlen : len ≤ 1048576 := by omega
  have HT := (show Hid _ from hT)
  have HU := (show Hid _ from hU)
  clear hbig hT hU
  go_enter Tryd.func5, Tryd.ntmps5
  go_wp2_with fail
  refine (big_any _ _ _ _).mono ?_
  rintro e w1 ⟨rfl, hw⟩
  rw [hw, HN.out]
  clear hw w1 HN
  go_wp2_with fail
  refine (drawTake_any HU.out).mono ?_
  rintro e w1 ⟨s, hs, rfl, b1⟩
  obtain ⟨L, hL⟩ : ∃ L, L = (tkF s).1 := ⟨_, rfl⟩
  obtain ⟨p, hp⟩ : ∃ p, p = (tkF s).2 := ⟨_, rfl⟩
  obtain ⟨m, hm⟩ : ∃ m, m = L.length := ⟨_, rfl⟩
  obtain ⟨n, hn⟩ : ∃ n, n = s.size := ⟨_, rfl⟩
  have hnI : (s.size : Int) = (n : Int) := by rw [hn]
  have hlens := tkF_len s
  rw [← hL, ← hp, ← hm] at hlens
  have hm1 : m ≤ 40 := by omega
  have hp1 : p ≤ n := by omega
  have hn1 : n ≤ 300 := by omega
  have HS : Hid (∀ w', Calls Tryd.prog 8 #[.string s] w' fun e w'' => ∃ v, e = .returned (.tuple #[v, .int .i64 (p : Int)]) ∧ OwnL w'' w'.heap.size v L ∧ Below w'.heap.size w' w'') := fun w' => by rw [hL, hp]; exact specTake_any s (by omega) w'
  have HI : Hid (∀ w', Below w.heap.size w w' → Calls Tryd.prog 9 #[.string s] w' fun e w'' => ∃ v, e = .returned (.tuple #[v, .int .i64 (p : Int)]) ∧ OwnL w'' w'.heap.size v L ∧ Below w'.heap.size w' w'') := fun w' hB => by rw [hL, hp]; exact implTake_any s (by omega) w' (Halves.below HT.out hB)
  have HA : Hid (Fi s L 0 p ∧ catF L = s.extract 0 p ∧ ∀ d ∈ L, d.length ≤ 100000) := by rw [hL, hp]; exact took_all s
  have HM : Hid (∀ t : ByteArray, t.size ≤ 100000 → tkF (s.extract 0 p ++ frameT t) = (L ++ [t.toList], p + (8 + t.size))) := fun t ht => by rw [hL, hp]; exact took_more s t ht
  have HMl : Hid (m = L.length) := hm
  have HNs : Hid (n = s.size) := hn
  clear hL hp hm hn hlens
  go_wp2_with fail
  refine (HI.out w1 b1).mono ?_
  rintro e w2 ⟨v2, rfl, o2, hB2⟩
  have b2 : Below w.heap.size w w2 := b1.trans (hB2.mono b1.size)
  obtain ⟨a2, c2, rfl, i2, _⟩ := o2.strs2
  rw [← HMl.out] at i2 ⊢
  clear o2 b1 hB2
  go_wp2_with fail
  refine (HS.out w2).mono ?_
  rintro e w3 ⟨v3, rfl, o3, hB3⟩
  have b3 : Below w.heap.size w w3 := b2.trans (hB3.mono b2.size)
  obtain ⟨a3, c3, rfl, i3, _⟩ := o3.strs2
  rw [← HMl.out] at i3 ⊢
  have j3 := i2.below hB3
  clear o3 hB3 b2 i2
  go_wp2_with fail
  refine (sameT_any _ _ _ _ _ _ _ j3 i3).mono ?_
  rintro e w4 ⟨rfl, hB4⟩
  have hpn : ((p : Int) != (p : Int)) = false := by simp
  have hg1 : decide ((n : Int) < (p : Int)) = false := decide_eq_false (by omega)
  have hg3 : decide (n < p) = false := decide_eq_false (by omega)
  have HF4 : Hid (∀ w', Below w4.heap.size w4 w' → Below w.heap.size w w' ∧ IsStrs w' a2 m c2 (atL L)) := fun w' hB => by
    have b4 : Below w.heap.size w w4 := b3.trans (hB4.mono b3.size)
    exact ⟨b4.trans (hB.mono b4.size), (j3.below hB4).below hB⟩
  clear i3 j3 hB4 b3
  go_wp2
  go_loopw [8, 9] (fun v y wr => ∃ (k : Nat), k ≤ m ∧ y = .int .i64 k ∧ v = .string (catF (L.take k)) ∧ Hid (Below w4.heap.size w4 wr)) (fun _ y _ => m - (intOf y).toNat)
  case atStart => exact ⟨0, Nat.zero_le _, rfl, by rw [List.take_zero]; rfl, Below.refl _ _⟩
  case round =>
    obtain ⟨k, hk, rfl, rfl, HB⟩ := hrel
    by_cases hlt : k < m
    · have hltI : (k : Int) < (m : Int) := by omega
      obtain ⟨d, hd⟩ : ∃ d, d = atL L k := ⟨_, rfl⟩
      have hkL : k < L.length := by rw [← HMl.out]; exact hlt
      have hdl : d.size ≤ 100000 := by
        have := HA.out.2.2 (L.getD k []) (by simp [hkL])
        rw [hd]
        unfold atL tx
        exact this
      obtain ⟨b, off, hae, hbs, hcell⟩ := (HF4.out wr HB.out).2.2.2 (by omega)
      have d1 := hcell k hlt
      rw [← hd] at d1
      have hcat : catF (L.take (k + 1)) = catF (L.take k) ++ frameT d := by rw [hd]; exact catF_take L k hkL
      have hcs := catF_le L HA.out.2.2 k (by omega)
      have hfs : (frameT d).size ≤ 100008 := by unfold frameT; rw [if_pos hdl, ByteArray.size_append, headT_size]; omega
      have hadd := add_ok (a := catF (L.take k)) (b := frameT d) (by have : k * 100008 ≤ 40 * 100008 := Nat.mul_le_mul_right _ (by omega); omega)
      have HC := (show Hid _ from hcat)
      generalize catF (L.take k) = x at hadd HC ⊢
      subst hae
      clear hcell hd hcat hcs
      go_wp2_with fail
      refine (implFrame_any d (by omega) wr (Halves.below HT.out (HF4.out wr HB.out).1)).mono ?_
      rintro e w5 ⟨rfl, hB5⟩
      have HB5 : Hid (Below w4.heap.size w4 w5) := HB.out.trans (hB5.mono HB.out.size)
      generalize frameT d = y at hadd HC ⊢
      clear hB5 d1 HB
      go_wp2
      go_roundw
      case rel => exact ⟨k + 1, by omega, by go_num, by rw [HC.out], HB5.out⟩
      case measure => simp [intOf]; omega
    · have hke : k = m := by omega
      subst hke
      have hall : catF (L.take k) = s.extract 0 p := by rw [HMl.out, List.take_length]; exact HA.out.2.1
      rw [hall]
      obtain ⟨x, hx⟩ : ∃ x, x = s.extract 0 p := ⟨_, rfl⟩
      have hxs : x.size = p := by rw [hx, ByteArray.size_extract]; have := HNs.out; omega
      have hxI : (x.size : Int) = (p : Int) := by rw [hxs]
      have HX : Hid (x = s.extract 0 p) := hx
      rw [← hx]
      clear hall hx
      go_wp2_with fail
      refine (drawFrame_any (IsU8.below HU.out (HF4.out wr HB.out).1)).mono ?_
      rintro e w5 ⟨t, ht, rfl, hB5⟩
      obtain ⟨T, hT'⟩ : ∃ T, T = t.size := ⟨_, rfl⟩
      have hTI : (t.size : Int) = (T : Int) := by rw [hT']
      have hT1 : T ≤ 8 := by omega
      have HTs : Hid (T = t.size) := hT'
      have HB5 : Hid (Below w4.heap.size w4 w5) := HB.out.trans (hB5.mono HB.out.size)
      obtain ⟨F, hF⟩ : ∃ F, F = frameT t := ⟨_, rfl⟩
      have hFs : F.size = 8 + T := by rw [hF, hT']; unfold frameT; rw [if_pos (by omega), ByteArray.size_append, headT_size]
      obtain ⟨T8, hT8⟩ : ∃ T8, T8 = 8 + T := ⟨_, rfl⟩
      have hFI : (F.size : Int) = (T8 : Int) := by rw [hFs, hT8]
      have hT81 : T8 ≤ 16 := by omega
      have HFF : Hid (∀ w', Below w4.heap.size w4 w' → Calls Tryd.prog 7 #[.string t] w' fun e w'' => e = .returned (.string F) ∧ Below w'.heap.size w' w'') := fun w' hB => by rw [hF]; exact implFrame_any t (by omega) w' (Halves.below HT.out (HF4.out w' hB).1)
      have hadd := add_ok (a := x) (b := F) (by omega)
      have HM1 : Hid (∀ w', Below w4.heap.size w4 w' → Calls Tryd.prog 9 #[.string (x ++ F)] w' fun e w'' => ∃ v, e = .returned (.tuple #[v, .int .i64 ((p + T8 : Nat) : Int)]) ∧ OwnL w'' w'.heap.size v (L ++ [t.toList]) ∧ Below w'.heap.size w' w'') := fun w' hB => by
        have h1 := implTake_any (x ++ F) (by rw [ByteArray.size_append]; omega) w' (Halves.below HT.out (HF4.out w' hB).1)
        have h2 := HM.out t (by omega)
        rw [← HX.out, ← hF, ← hT', ← hT8] at h2
        rw [h2] at h1
        exact h1
      clear hB5 hT' hF hFs hT8 HB
      go_wp2_with fail
      refine (HFF.out w5 HB5.out).mono ?_
      rintro e w6 ⟨rfl, hB6⟩
      have HB6 : Hid (Below w4.heap.size w4 w6) := HB5.out.trans (hB6.mono HB5.out.size)
      clear hB6 HB5
      go_wp2_with fail
      refine (HM1.out w6 HB6.out).mono ?_
      rintro e w7 ⟨v7, rfl, o7, hB7⟩
      have HB7 : Hid (Below w4.heap.size w4 w7) := HB6.out.trans (hB7.mono HB6.out.size)
      obtain ⟨a7, c7, rfl, i7, _⟩ := o7.strs2
      have hl7 : (L ++ [t.toList]).length = k + 1 := by rw [List.length_append, ← HMl.out]; rfl
      rw [hl7] at i7 ⊢
      have HI7 : Hid (∀ w', Below w7.heap.size w7 w' → IsStrs w' a7 (k + 1) c7 (atL (L ++ [t.toList]))) := fun w' hB => i7.below hB
      obtain ⟨q, hq⟩ : ∃ q, q = len % (p + 1) := ⟨_, rfl⟩
      have hq1 : q ≤ p := by rw [hq]; have := Nat.mod_lt len (show 0 < p + 1 by omega); omega
      have hqI : (len : Int) % ((p : Int) + 1) = (q : Int) := by rw [hq, Int.natCast_emod]; rfl
      have hqp : (q : Int) ≤ (p : Int) := by omega
      clear o7 hB7 i7 hl7 HB6 HM1 hq
      have hqx : (q : Int) ≤ (x.size : Int) := by omega
      have hqx2 : q ≤ x.size := by omega
      have HXq : Hid (x.extract 0 q = s.extract 0 q) := by
        show _ = _
        rw [HX.out, ByteArray.extract_extract, Nat.zero_add, Nat.zero_add, Nat.min_eq_left hq1]
      obtain ⟨j, hj, hfew⟩ := few_take HA.out.1 hq1 (by have := HNs.out; omega)
      rw [← HMl.out] at hj
      obtain ⟨e, he⟩ : ∃ e, e = (tkF (s.extract 0 q)).2 := ⟨_, rfl⟩
      have HM2 : Hid (∀ w', Below w4.heap.size w4 w' → Calls Tryd.prog 9 #[.string (x.extract 0 q)] w' fun r w'' => ∃ v, r = .returned (.tuple #[v, .int .i64 (e : Int)]) ∧ OwnL w'' w'.heap.size v (L.take j) ∧ Below w'.heap.size w' w'') := fun w' hB => by
        have h1 := implTake_any (s.extract 0 q) (by rw [ByteArray.size_extract]; omega) w' (Halves.below HT.out (HF4.out w' hB).1)
        rw [hfew, ← he] at h1
        rw [HXq.out]
        exact h1
      have HJ : Hid ((L.take j).length = j ∧ ∀ i, i < j → atL (L.take j) i = atL L i) := by
        refine ⟨by rw [List.length_take]; have := HMl.out; omega, fun i hi => ?_⟩
        unfold atL
        simp [hi]
      clear hfew he
      go_wp2_with fail
      refine (HM2.out w7 HB7.out).mono ?_
      rintro r w8 ⟨v8, rfl, o8, hB8⟩
      have HB8 : Hid (Below w4.heap.size w4 w8) := HB7.out.trans (hB8.mono HB7.out.size)
      obtain ⟨a8, c8, rfl, i8, _⟩ := o8.strs2
      rw [HJ.out.1] at i8 ⊢
      have i8' : IsStrs w8 a8 j c8 (atL L) := i8.of HJ.out.2
      have j8 := HI7.out w8 hB8
      obtain ⟨bb, off, hae, _, hcell⟩ := j8.2.2 (by omega)
      have ck : w8.cell? ⟨bb, off + k, none⟩ = some (.string t) := by
        have h1 := hcell k (by omega)
        rw [show atL (L ++ [t.toList]) k = t by
          unfold atL
          rw [show (L ++ [t.toList]).getD k [] = t.toList by rw [HMl.out]; simp, tx_toList]] at h1
        exact h1
      have HS8 : Hid (∀ w', Below w8.heap.size w8 w' → Below w4.heap.size w4 w' ∧ IsStrs w' a8 j c8 (atL L) ∧ IsStrs w' a2 j c2 (atL L)) := fun w' hB => by
        have hb : Below w4.heap.size w4 w' := HB8.out.trans (hB.mono HB8.out.size)
        exact ⟨hb, i8'.below hB, (HF4.out w' hb).2.pre hj⟩
      have hxe : (x.toList == (s.extract 0 p).toList) = true := by rw [← HX.out]; simp
      have hps : (p : Int) ≤ (s.size : Int) := by omega
      have hps2 : p ≤ s.size := by have := HNs.out; omega
      have hjI : (j : Int) ≤ (k : Int) := by omega
      have hc2 : j ≤ c2 := by have := (HF4.out w4 (Below.refl _ _)).2.1; omega
      have hc2I : (j : Int) ≤ (c2 : Int) := by omega
      have htt : (t.toList == t.toList) = true := by simp
      subst hae
      clear o8 i8 i8' j8 hcell HI7 hB8 HB7 HM2
      go_wp2_with fail
      refine (HFF.out w8 HB8.out).mono ?_
      rintro r w9 ⟨rfl, hB9⟩
      have HB9 := (show Hid _ from hB9)
      clear hB9
      go_wp2_with fail
      refine (sameT_any _ _ _ _ _ _ _ (HS8.out w9 HB9.out).2.1 (HS8.out w9 HB9.out).2.2).mono ?_
      rintro r w10 ⟨rfl, hB10⟩
      have HE : Hid (Below w.heap.size w w10) := (HF4.out w10 (HS8.out w10 (HB9.out.trans (hB10.mono HB9.out.size))).1).1
      clear hB10
      go_wp2
      go_ret
      exact ⟨rfl, HE.out⟩
end Go.Proofs.YtcknemblniemcaaDoor
