/-
  The specification's TakeFrames, for texts of at most 1,048,576 bytes.
-/
import Derived.Test.YtcknemblniemcaaDoorTkP
namespace Go.Proofs.YtcknemblniemcaaDoor
open Go.RowKit
set_option linter.unusedVariables false

set_option maxRecDepth 4000 in
set_option maxHeartbeats 2000000 in
theorem specTake_any (s : ByteArray) (hs : s.size ≤ 1048576) (w : World) :
    Calls Tryd.prog 8 #[.string s] w fun e w' => ∃ v, e = .returned (.tuple #[v, .int .i64 ((tkF s).2 : Int)]) ∧ OwnL w' w.heap.size v (tkF s).1 ∧ Below w.heap.size w w' := by
  obtain ⟨i0, hi, hz0, hz1, hz2⟩ := info_parts info9
  obtain ⟨n, hn⟩ : ∃ n, n = s.size := ⟨_, rfl⟩
  have hn1 : n ≤ 1048576 := by omega
  have hnI : (s.size : Int) = (n : Int) := by rw [hn]
  have HN : Hid (n = s.size) := hn
  clear hn
  go_enter Tryd.func8, Tryd.ntmps8
  go_wp2
  go_loopw [4, 5, 6, 7] (fun v y _ _ wr => ∃ (p q : Nat) (a : Option Addr) (cap : Nat) (L : List (List UInt8)), y = .int .i64 p ∧ v = .slice a q cap ∧ p ≤ n ∧ 8 * q ≤ p ∧ Hid (q = L.length ∧ Took s L p ∧ wr.ownsRow w.heap.size 9 1 (.slice a q cap) q (L.map encStr) ∧ Below w.heap.size w wr)) (fun _ y _ _ _ => n - (intOf y).toNat)
  case atStart => exact ⟨0, 0, _, _, [], rfl, rfl, Nat.zero_le _, Nat.zero_le _, rfl, Took.start s, World.ownsRow_made w #[] 0 (Nat.le_refl _) (by decide) rfl, (Below.refl _ _).alloc (Nat.le_refl _) _⟩
  case round =>
    obtain ⟨p, q, a, cap, L, rfl, rfl, hp, hq, HI⟩ := hrel
    by_cases h8 : p + 8 ≤ n
    · have h8I : (p : Int) + 8 ≤ (n : Int) := by omega
      go_wp2
      go_loopw [6, 7] (fun x y wr2 => ∃ (j z : Nat), j ≤ 4 ∧ y = .int .i64 j ∧ x = .int .i64 z ∧ Hid (z = wdTo s p j) ∧ wr2 = wr) (fun _ y _ => 4 - (intOf y).toNat)
      case atStart => exact ⟨0, 0, Nat.zero_le _, rfl, rfl, rfl, rfl⟩
      case round =>
        obtain ⟨j, z, hj, rfl, rfl, hz, hw⟩ := hrel
        subst hw
        by_cases hj4 : j < 4
        · have hjI : (j : Int) < 4 := by omega
          obtain ⟨pj, hpj⟩ : ∃ pj, pj = p + j := ⟨_, rfl⟩
          have hpl : pj < s.size := by have := HN.out; omega
          obtain ⟨b, hb⟩ : ∃ b, b = bn s pj := ⟨_, rfl⟩
          have hbl : b ≤ 255 := by rw [hb]; exact bn_le hpl
          have hbI : (s[pj].toNat : Int) = (b : Int) := by rw [hb]; exact bn_eq hpl
          have hpI : (p : Int) + (j : Int) = (pj : Int) := by omega
          have hzl : z ≤ 16777215 := by
            have h1 := wdTo_le (s := s) (p := p) j (by omega)
            have h2 : 256 ^ j ≤ 256 ^ 3 := Nat.pow_le_pow_right (by decide) (by omega)
            rw [hz.out]
            have h3 : (256 : Nat) ^ 3 = 16777216 := by decide
            omega
          have HZ : Hid (256 * z + b = wdTo s p (j + 1)) := by show _ = _; rw [hz.out, hb, hpj]; rfl
          clear hb hpj hz
          go_wp2
          go_roundw
          case rel => exact ⟨j + 1, 256 * z + b, by omega, by go_num, by go_num, HZ.out, trivial⟩
          case measure => simp [intOf]; omega
        · have hj4' : j = 4 := by omega
          subst hj4'
          have hzl : z < 4294967296 := by rw [hz.out]; exact wd_lt (by have := HN.out; omega)
          have HZ : Hid (z = wd s p) := hz.out
          clear hz
          by_cases hbig : z ≤ 100000
          · have hbigI : (z : Int) ≤ 100000 := by omega
            by_cases hfit : p + 8 + z ≤ n
            · obtain ⟨p4, hp4⟩ : ∃ p4, p4 = p + 4 := ⟨_, rfl⟩
              obtain ⟨p8, hp8⟩ : ∃ p8, p8 = p + 8 := ⟨_, rfl⟩
              obtain ⟨pe, hpe⟩ : ∃ pe, pe = p + 8 + z := ⟨_, rfl⟩
              have e4 : (p : Int) + 4 = (p4 : Int) := by omega
              have e8 : (p : Int) + 8 = (p8 : Int) := by omega
              have ee : (p8 : Int) + (z : Int) = (pe : Int) := by omega
              have l1 : (p4 : Int) ≤ (p8 : Int) := by omega
              have l2 : (p8 : Int) ≤ (pe : Int) := by omega
              have l3 : (pe : Int) ≤ (n : Int) := by omega
              have l4 : (p8 : Int) ≤ (n : Int) := by omega
              have hlim : pe ≤ 1048576 := by omega
              have w4 : IntKind.i64.wrap ((p : Int) + 4) = (p4 : Int) := by rw [IntKind.wrap_i64]; omega
              have w8 : IntKind.i64.wrap ((p : Int) + 8) = (p8 : Int) := by rw [IntKind.wrap_i64]; omega
              have we : IntKind.i64.wrap ((p8 : Int) + (z : Int)) = (pe : Int) := by rw [IntKind.wrap_i64]; omega
              have hg1 : decide ((100000 : Int) < (z : Int)) = false := decide_eq_false (by omega)
              have hg2 : decide ((n : Int) < (pe : Int)) = false := decide_eq_false (by omega)
              have hg3 : decide (n < pe) = false := decide_eq_false (by omega)
              have m1 : p4 ≤ p8 := by omega
              have m2 : p8 ≤ pe := by omega
              have m3 : pe ≤ n := by omega
              have m4 : p8 ≤ n := by omega
              have m5 : pe ≤ s.size := by have := HN.out; omega
              have m6 : p8 ≤ s.size := by have := HN.out; omega
              have l5 : (pe : Int) ≤ (s.size : Int) := by omega
              have l6 : (p8 : Int) ≤ (s.size : Int) := by omega
              have HX : Hid (∀ t : Later wr, Calls Tryd.prog 17 #[.string (s.extract p8 pe)] t.val fun e w' => e = .returned (.string (sumT (s.extract p8 pe))) ∧ Below t.val.heap.size t.val w') := fun t => sum_any _ (by rw [ByteArray.size_extract]; omega) t.val
              have hne := Later.any wr
              have HFR : Hid (frB s p = ((sumT (s.extract p8 pe)).toList == (s.extract p4 p8).toList)) := by
                show _ = _
                unfold frB dat
                rw [← HZ.out, decide_eq_true (by have := HN.out; omega), decide_eq_true hbig, decide_eq_true (by have := HN.out; omega), ← hp8, ← hp4, ← (show pe = p8 + z by omega)]
                rfl
              cases hcmp : ((sumT (s.extract p8 pe)).toList == (s.extract p4 p8).toList) with
              | true =>
                rw [hcmp] at HFR
                have HE : Hid (Took s (L ++ [(s.extract p8 pe).toList]) pe) := by
                  have h1 := HI.out.2.1.step HFR.out
                  unfold dat at h1
                  rw [← HZ.out, ← hp8, ← (show pe = p8 + z by omega)] at h1
                  exact h1
                have hpp : p < pe := by omega
                have hq1 : 8 * (q + 1) ≤ pe := by omega
                have hpn : pe ≤ n := by omega
                clear hp4 hp8 hpe
                go_wp2
                refine wp_region_later (by kernel_rfl) (by kernel_rfl) ?_
                repeat (go_big_quiet_step (first | (rename_i t; with_reducible exact Calls.later (HX.out t))))
                refine wpQuiet_nil ?_
                rintro _ ⟨s5, rfl⟩
                have HF : Hid (Below w.heap.size w s5.val ∧ s5.val.ownsRow w.heap.size 9 1 (.slice a q cap) q (L.map encStr) ∧ q = L.length) := by
                  obtain ⟨i1, i2, i3, i4⟩ := HI.out
                  exact ⟨i4.trans (s5.ok.mono i4.size), ownsRow_below i3 s5.ok, i1⟩
                obtain ⟨w6, hw6⟩ : ∃ w6, w6 = s5.val := ⟨_, rfl⟩
                rw [← hw6] at HF ⊢
                have hc3 : Hid (q + 1 ≤ maxLen) := by show _ ≤ _; unfold maxLen; omega
                have hc4 : Hid ((q + 1) * 16 ≤ 140737488355328) := by show _ ≤ _; omega
                clear hw6 hne HX s5
                go_wp2_with (at_builtin; refine wpList_append_own _ rfl _ _ 24 rfl w.heap.size 9 i0 (.string ⟨#[]⟩) 1 16 Tryd.underlying24 hi hz0 hz1 hz2 rfl (by decide) _ q _ rfl (World.ownsRow.alloc HF.out.2.1 _) ⟨w6.heap.size, 0, none⟩ 1 1 [.string (s.extract p8 pe)] rfl rfl (World.news_of_block (heap_alloc_new _ _)) (fun u hu => by simp at hu; subst hu; rfl) hc3.out hc4.out (by have := HF.out.1.size; simp; omega) ?_; intro v' w7 hown hgrow hnil)
                have hB7 : Below w.heap.size w w7 := (HF.out.1.alloc HF.out.1.size _).grown hgrow (by have := HF.out.1.size; simp; omega) (fun x hx => (HF.out.2.1.lt x hx).1)
                have hx7 : L.map encStr ++ [.string (s.extract p8 pe)] = (L ++ [(s.extract p8 pe).toList]).map encStr := by rw [List.map_append, List.map_cons, List.map_nil, enc_str]
                rw [hx7] at hown
                obtain ⟨a', cap', rfl⟩ : ∃ a' cap', v' = .slice a' (q + 1) cap' := by
                  rcases hown.2 with ⟨h, h2⟩ | ⟨g', cap'', cur, h, _⟩
                  · rw [h2] at hown; have := hown.1; simp at this
                  · exact ⟨_, _, h⟩
                have HO : Hid (w7.ownsRow w.heap.size 9 1 (.slice a' (q + 1) cap') (q + 1) ((L ++ [(s.extract p8 pe).toList]).map encStr) ∧ Below w.heap.size w w7 ∧ q + 1 = (L ++ [(s.extract p8 pe).toList]).length) := ⟨hown, hB7, by rw [List.length_append, ← HF.out.2.2]; rfl⟩
                clear hown hgrow hnil hB7 hx7
                go_wp2
                go_roundw
                case rel => exact ⟨pe, q + 1, a', cap', L ++ [(s.extract p8 pe).toList], by go_num, rfl, hpn, hq1, HO.out.2.2, HE.out, HO.out.1, HO.out.2.1⟩
                case measure => simp [intOf]; omega
              | false =>
                rw [hcmp] at HFR
                have HE : Hid (tkF s = (L, p)) := HI.out.2.1.done HFR.out
                clear hp4 hp8 hpe
                go_wp2
                refine wp_region_later (by kernel_rfl) (by kernel_rfl) ?_
                repeat (go_big_quiet_step (first | (rename_i t; with_reducible exact Calls.later (HX.out t))))
                refine wpQuiet_nil ?_
                rintro _ ⟨s5, rfl⟩
                have HF : Hid (Below w.heap.size w s5.val ∧ OwnL s5.val w.heap.size (.slice a q cap) L) := by
                  obtain ⟨i1, i2, i3, i4⟩ := HI.out
                  refine ⟨i4.trans (s5.ok.mono i4.size), ?_⟩
                  show s5.val.ownsRow _ _ _ _ _ _
                  rw [← i1]
                  exact ownsRow_below i3 s5.ok
                obtain ⟨w6, hw6⟩ : ∃ w6, w6 = s5.val := ⟨_, rfl⟩
                rw [← hw6] at HF ⊢
                clear hw6 hne HX s5
                go_wp2
                go_ret2
                rw [HE.out]
                exact ⟨_, rfl, HF.out.2, HF.out.1⟩
            · obtain ⟨p8, hp8⟩ : ∃ p8, p8 = p + 8 := ⟨_, rfl⟩
              obtain ⟨pe, hpe⟩ : ∃ pe, pe = p + 8 + z := ⟨_, rfl⟩
              have w8 : IntKind.i64.wrap ((p : Int) + 8) = (p8 : Int) := by rw [IntKind.wrap_i64]; omega
              have we : IntKind.i64.wrap ((p8 : Int) + (z : Int)) = (pe : Int) := by rw [IntKind.wrap_i64]; omega
              have hg1 : decide ((100000 : Int) < (z : Int)) = false := decide_eq_false (by omega)
              have hg2 : decide ((n : Int) < (pe : Int)) = true := decide_eq_true (by omega)
              have hg3 : decide (n < pe) = true := decide_eq_true (by omega)
              have hfr : frB s p = false := by
                unfold frB
                rw [← HZ.out, decide_eq_false (show ¬ p + 8 + z ≤ s.size by have := HN.out; omega)]
                simp
              have HE : Hid (tkF s = (L, p)) := HI.out.2.1.done hfr
              have hne := Later.any wr
              clear hp8 hpe hfr hfit
              go_wp2
              refine wp_region_later (by kernel_rfl) (by kernel_rfl) ?_
              repeat (go_big_quiet_step (fail))
              refine wpQuiet_nil ?_
              rintro _ ⟨s5, rfl⟩
              have HF : Hid (Below w.heap.size w s5.val ∧ OwnL s5.val w.heap.size (.slice a q cap) L) := by
                obtain ⟨i1, i2, i3, i4⟩ := HI.out
                refine ⟨i4.trans (s5.ok.mono i4.size), ?_⟩
                show s5.val.ownsRow _ _ _ _ _ _
                rw [← i1]
                exact ownsRow_below i3 s5.ok
              obtain ⟨w6, hw6⟩ : ∃ w6, w6 = s5.val := ⟨_, rfl⟩
              rw [← hw6] at HF ⊢
              clear hw6 hne s5
              go_wp2
              go_ret2
              rw [HE.out]
              exact ⟨_, rfl, HF.out.2, HF.out.1⟩
          · have hg1 : decide ((100000 : Int) < (z : Int)) = true := decide_eq_true (by omega)
            have hg3 : decide (100000 < z) = true := decide_eq_true (by omega)
            have hfr : frB s p = false := by
              unfold frB
              rw [← HZ.out, decide_eq_false hbig]
              simp
            have HE : Hid (tkF s = (L, p)) := HI.out.2.1.done hfr
            have hne := Later.any wr
            clear hfr hbig
            go_wp2
            refine wp_region_later (by kernel_rfl) (by kernel_rfl) ?_
            repeat (go_big_quiet_step (fail))
            refine wpQuiet_nil ?_
            rintro _ ⟨s5, rfl⟩
            have HF : Hid (Below w.heap.size w s5.val ∧ OwnL s5.val w.heap.size (.slice a q cap) L) := by
              obtain ⟨i1, i2, i3, i4⟩ := HI.out
              refine ⟨i4.trans (s5.ok.mono i4.size), ?_⟩
              show s5.val.ownsRow _ _ _ _ _ _
              rw [← i1]
              exact ownsRow_below i3 s5.ok
            obtain ⟨w6, hw6⟩ : ∃ w6, w6 = s5.val := ⟨_, rfl⟩
            rw [← hw6] at HF ⊢
            clear hw6 hne s5
            go_wp2
            go_ret2
            rw [HE.out]
            exact ⟨_, rfl, HF.out.2, HF.out.1⟩
    · have h8I : (n : Int) < (p : Int) + 8 := by omega
      have hfr : frB s p = false := by
        unfold frB
        rw [decide_eq_false (show ¬ p + 8 ≤ s.size by have := HN.out; omega)]
        rfl
      have HE : Hid (tkF s = (L, p)) := HI.out.2.1.done hfr
      have HF : Hid (Below w.heap.size w wr ∧ OwnL wr w.heap.size (.slice a q cap) L) := by
        obtain ⟨i1, i2, i3, i4⟩ := HI.out
        refine ⟨i4, ?_⟩
        show wr.ownsRow _ _ _ _ _ _
        rw [← i1]
        exact i3
      clear hfr h8
      go_wp2
      go_ret2
      rw [HE.out]
      exact ⟨_, rfl, HF.out.2, HF.out.1⟩
end Go.Proofs.YtcknemblniemcaaDoor
