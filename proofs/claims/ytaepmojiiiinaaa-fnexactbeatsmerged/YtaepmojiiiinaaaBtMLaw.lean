/-
  The statement FnExactBeatsMergedSaid: at every two slices of beats the law returns true, and both read afterwards as they read before. No condition.
-/
import Derived.Test.YtaepmojiiiinaaaBtMi
import Derived.Test.YtaepmojiiiinaaaEMark
import Derived.Test.YtaepmojiiiinaaaEVal2
namespace Go.Proofs.Ytaepmojiiiinaaa
open Go.ChangeShapes Go.WideShapes Go.ChangeAt Go.RowKit Go.Deep
set_option linter.unusedVariables false

set_option maxRecDepth 10000 in
set_option maxHeartbeats 4000000 in
theorem merged_walk (a1 : Option Addr) (len1 cap1 : Nat) (D1 : Nat → Ev) (a2 : Option Addr) (len2 cap2 : Nat) (D2 : Nat → Ev) (w0 : World) (h1 : IsEvs w0 a1 len1 cap1 D1) (h2 : IsEvs w0 a2 len2 cap2 D2) (hF1 : ∀ i, i < len1 → (D1 i).in) (hF2 : ∀ i, i < len2 → (D2 i).in) :
    Calls Try.prog 7 #[.slice a1 len1 cap1, .slice a2 len2 cap2] w0 fun e w' => e = .returned (.bool true) ∧ Below w0.heap.size w0 w' := by
  go_enter Try.func7, Try.ntmps7
  go_wp2_with fail
  refine (szEvs_any a1 len1 cap1 D1 w0 h1 hF1 _ (by omega) (by omega)).mono ?_
  rintro e wa ⟨r, rfl, hr, hBa⟩
  rcases hr with hr | ⟨hr, hr1, hl1, _⟩
  · go_wp2
    go_ret
    exact ⟨rfl, hBa⟩
  go_wp2_with fail
  refine (szEvs_any a2 len2 cap2 D2 wa (h2.below hBa) hF2 _ (by omega) (by omega)).mono ?_
  rintro e w ⟨r2, rfl, hr2, hBb⟩
  have hB0 : Below w0.heap.size w0 w := hBa.trans (hBb.mono hBa.size)
  rcases hr2 with hr2 | ⟨hr2, hr3, hl2, _⟩
  · go_wp2
    go_ret
    exact ⟨rfl, hB0⟩
  have HB0 : Hid (Below w0.heap.size w0 w) := hB0
  have h1 := h1.below hB0
  have h2 := h2.below hB0
  clear hBa hBb hB0
  obtain ⟨A, hA⟩ : ∃ A, A = listD D1 len1 := ⟨_, rfl⟩
  obtain ⟨B, hB⟩ : ∃ B, B = listD D2 len2 := ⟨_, rfl⟩
  have hAl : A.length ≤ 1048576 := by rw [hA, listD_len]; exact hl1
  have hBl : B.length ≤ 1048576 := by rw [hB, listD_len]; exact hl2
  have TA : Hid (∀ w', Below w.heap.size w w' → Calls Try.prog 10 #[.slice a1 len1 cap1] w' fun e w'' => e = .returned (.slice (some ⟨w'.heap.size, 0, none⟩) A.length A.length) ∧ OwnE w'' w'.heap.size w'.heap.size A.length A ∧ Below w'.heap.size w' w'') := fun w' hB' => toL_any a1 len1 cap1 D1 A hA w' (h1.below hB') hl1
  have TB : Hid (∀ w', Below w.heap.size w w' → Calls Try.prog 10 #[.slice a2 len2 cap2] w' fun e w'' => e = .returned (.slice (some ⟨w'.heap.size, 0, none⟩) B.length B.length) ∧ OwnE w'' w'.heap.size w'.heap.size B.length B ∧ Below w'.heap.size w' w'') := fun w' hB' => toL_any a2 len2 cap2 D2 B hB w' (h2.below hB') hl2
  have HIA : Hid (∀ i, i < A.length → (A.getD i evZ).in) := by intro i hi; rw [hA, listD_len] at hi; rw [hA, listD_at D1 len1 i hi]; exact hF1 i hi
  have HIB : Hid (∀ i, i < B.length → (B.getD i evZ).in) := by intro i hi; rw [hB, listD_len] at hi; rw [hB, listD_at D2 len2 i hi]; exact hF2 i hi
  have hRl := mgR_len (fun i => A.getD i evZ) A.length (fun i => B.getD i evZ) B.length
  have hS : ∀ w' g1 b1 c1 g2 b2 c2, OwnE w' b1 g1 c1 A → OwnE w' b2 g2 c2 B → Calls Try.prog 24 #[.slice (some ⟨g1, 0, none⟩) A.length c1, .slice (some ⟨g2, 0, none⟩) B.length c2] w' fun e w'' => ∃ v, e = .returned v ∧ OwnV w'' w'.heap.size v (mgR (fun i => A.getD i evZ) A.length (fun i => B.getD i evZ) B.length) ∧ Below w'.heap.size w' w'' := fun w' g1 b1 c1 g2 b2 c2 p q => specMerged_any _ _ _ _ _ _ _ _ w' p.evs q.evs HIA.out HIB.out
  have hI : ∀ w' g1 b1 c1 g2 b2 c2, OwnE w' b1 g1 c1 A → OwnE w' b2 g2 c2 B → Calls Try.prog 25 #[.slice (some ⟨g1, 0, none⟩) A.length c1, .slice (some ⟨g2, 0, none⟩) B.length c2] w' fun e w'' => ∃ v, e = .returned v ∧ OwnV w'' w'.heap.size v (mgR (fun i => A.getD i evZ) A.length (fun i => B.getD i evZ) B.length) ∧ Below w'.heap.size w' w'' := fun w' g1 b1 c1 g2 b2 c2 p q => implMerged_any _ _ _ _ _ _ _ _ w' p.evs q.evs HIA.out HIB.out
  obtain ⟨R, hR⟩ : ∃ R, R = mgR (fun i => A.getD i evZ) A.length (fun i => B.getD i evZ) B.length := ⟨_, rfl⟩
  rw [← hR] at hRl
  simp only [← hR] at hS hI
  have SM := (show Hid _ from hS)
  have IM := (show Hid _ from hI)
  clear hA hB h1 h2 hF1 hF2 hS hI hR
  go_wp2_with fail
  refine (TA.out w (Below.refl _ _)).mono ?_
  rintro e w2 ⟨rfl, o2, b2⟩
  go_wp2_with fail
  refine (TB.out w2 b2).mono ?_
  rintro e w3 ⟨rfl, o3, hB3⟩
  have b3 : Below w.heap.size w w3 := b2.trans (hB3.mono b2.size)
  have o2' := o2.below hB3
  go_wp2_with fail
  refine (SM.out w3 _ _ _ _ _ _ o2' o3).mono ?_
  rintro e w4 ⟨vw, rfl, q4, hB4⟩
  have b4 : Below w.heap.size w w4 := b3.trans (hB4.mono b3.size)
  have ql : ∀ k, vw.ownBlock = some k → k < w4.heap.size := fun k hk => (World.ownsRow.lt q4 k hk).2
  have b4s : w.heap.size ≤ w4.heap.size := b4.size
  clear o2 o2' o3 hB3 hB4 b2 b3
  go_wp2_with fail
  refine (TA.out w4 b4).mono ?_
  rintro e w5 ⟨rfl, o5, hB5⟩
  have b5 : Below w.heap.size w w5 := b4.trans (hB5.mono b4.size)
  have q5 := q4.below hB5
  have s5 : w4.heap.size < w5.heap.size := o5.lies.2.1
  go_wp2_with fail
  refine (TB.out w5 b5).mono ?_
  rintro e w6 ⟨rfl, o6, hB6⟩
  have b6 : Below w.heap.size w w6 := b5.trans (hB6.mono b5.size)
  have q6 := q5.below hB6
  have p6 := o5.below hB6
  have s6 : w5.heap.size < w6.heap.size := o6.lies.2.1
  go_wp2_with fail
  refine (IM.out w6 _ _ _ _ _ _ p6 o6).mono ?_
  rintro e w7 ⟨vg, rfl, g7, hB7⟩
  have b7 : Below w.heap.size w w7 := b6.trans (hB7.mono b6.size)
  have q7 := q6.below hB7
  have p7 := p6.below hB7
  have o7 := o6.below hB7
  clear o5 o6 p6 q5 q6 q4 hB5 hB6 hB7 b4 b5 b6
  go_wp2_with fail
  refine (eqV_same _ _ _ _ _ _ g7 q7).mono ?_
  rintro e w8 ⟨rfl, hB8⟩
  have b8 : Below w.heap.size w w8 := b7.trans (hB8.mono b7.size)
  have q8 := q7.below hB8
  have p8 := p7.below hB8
  have o8 := o7.below hB8
  have g8 := g7.below hB8
  clear q7 p7 o7 g7 hB8 b7
  go_wp2_with fail
  refine (TA.out w8 b8).mono ?_
  rintro e w9 ⟨rfl, x9, hB9⟩
  go_wp2_with fail
  refine (eqV_same _ _ _ _ _ _ (p8.below hB9).v x9.v).mono ?_
  rintro e w10 ⟨rfl, hB10⟩
  have hB810 : Below w8.heap.size w8 w10 := hB9.trans (hB10.mono hB9.size)
  have b10 : Below w.heap.size w w10 := b8.trans (hB810.mono b8.size)
  have q10 := q8.below hB810
  have p10 := p8.below hB810
  have o10 := o8.below hB810
  have g10 := g8.below hB810
  clear q8 p8 o8 g8 hB9 hB10 hB810 x9 b8
  go_wp2_with fail
  refine (TB.out w10 b10).mono ?_
  rintro e w11 ⟨rfl, x11, hB11⟩
  go_wp2_with fail
  refine (eqV_same _ _ _ _ _ _ (o10.below hB11).v x11.v).mono ?_
  rintro e w12 ⟨rfl, hB12⟩
  have hB1012 : Below w10.heap.size w10 w12 := hB11.trans (hB12.mono hB11.size)
  have b12 : Below w.heap.size w w12 := b10.trans (hB1012.mono b10.size)
  have q12 := q10.below hB1012
  have p12 := p10.below hB1012
  have o12 := o10.below hB1012
  have g12 := g10.below hB1012
  clear q10 p10 o10 g10 hB11 hB12 hB1012 x11 b10
  have gl : ∀ k, vg.ownBlock = some k → w6.heap.size ≤ k := fun k hk => (World.ownsRow.lt g12 k hk).1
  go_wp2_with fail
  refine (markEvs_any _ _ A 1 w12 p12.v hAl (by omega)).mono ?_
  rintro e w13 ⟨rfl, _, hG13⟩
  have b13 := b12.grown hG13 b12.size (fun k hk => by have hk' : some w4.heap.size = some k := hk; cases hk'; exact b4s)
  have g13 := g12.kept hG13 (fun k hk e => by have := gl k hk; have e' : some k = some w4.heap.size := e; cases e'; omega)
  have q13 := q12.kept hG13 (fun k hk e => by have := ql k hk; have e' : some k = some w4.heap.size := e; cases e'; omega)
  have o13 := o12.v.kept hG13 (fun k hk e => by have hk' : w5.heap.size = k := Option.some.inj hk; have e' : k = w4.heap.size := Option.some.inj e; omega)
  clear p12 o12 g12 q12 hG13 b12
  go_wp2_with fail
  refine (markEvs_any _ _ B (1 + A.length * 4) w13 o13 hBl (by omega)).mono ?_
  rintro e w14 ⟨rfl, _, hG14⟩
  have b14 := b13.grown hG14 b13.size (fun k hk => by have hk' : some w5.heap.size = some k := hk; cases hk'; omega)
  have g14 := g13.kept hG14 (fun k hk e => by have := gl k hk; have e' : some k = some w5.heap.size := e; cases e'; omega)
  have q14 := q13.kept hG14 (fun k hk e => by have := ql k hk; have e' : some k = some w5.heap.size := e; cases e'; omega)
  clear o13 g13 q13 hG14 b13
  have hk14 : decide (((1 + A.length * 4 + B.length * 4 : Nat) : Int) < 0) = false := decide_eq_false (by omega)
  go_wp2_with fail
  refine (eqV_same _ _ _ _ _ _ g14 q14).mono ?_
  rintro e w15 ⟨rfl, hB15⟩
  have b15 := b14.trans (hB15.mono b14.size)
  have g15 := g14.below hB15
  have q15 := q14.below hB15
  clear g14 q14 hB15 b14
  go_wp2_with fail
  refine (markEvs_any _ _ _ 1 w15 g15 (by omega) (by omega)).mono ?_
  rintro e w16 ⟨rfl, m16, hG16⟩
  have b16 := b15.grown hG16 b15.size (fun k hk => by have := gl k hk; omega)
  have q16 := q15.kept hG16 (fun k hk e => by have h1 := ql k hk; have h2 := gl k e.symm; omega)
  clear g15 q15 hG16 b15
  have hq1 : decide (((1 + R.length * 4 : Nat) : Int) < 0) = false := decide_eq_false (by omega)
  have hq2 : (((1 + R.length * 4 : Nat) : Int) != ((1 + R.length * 4 : Nat) : Int)) = false := by simp
  go_wp2_with fail
  refine (heldEvs_any _ _ 1 R.length w16 m16 (by omega) (by omega)).mono ?_
  rintro e w16' ⟨rfl, hB16'⟩
  have b16' := b16.trans (hB16'.mono b16.size)
  have q16' := q16.below hB16'
  have m16' := m16.below hB16'
  clear q16 m16 b16 hB16'
  go_wp2_with fail
  refine (TA.out w16' b16').mono ?_
  rintro e w17 ⟨rfl, o17, hB17⟩
  have b17 := b16'.trans (hB17.mono b16'.size)
  go_wp2_with fail
  refine (TB.out w17 b17).mono ?_
  rintro e w18 ⟨rfl, o18, hB18⟩
  have o17' := o17.below hB18
  go_wp2_with fail
  refine (IM.out w18 _ _ _ _ _ _ o17' o18).mono ?_
  rintro e w19 ⟨vh, rfl, g19, hB19⟩
  have hB1619 : Below w16'.heap.size w16' w19 := hB17.trans ((hB18.trans (hB19.mono hB18.size)).mono hB17.size)
  have b19 := b16'.trans (hB1619.mono b16'.size)
  have q19 := q16'.below hB1619
  have m19 := m16'.below hB1619
  clear o17 o17' o18 hB17 hB18 hB19 hB1619 b17 b16' q16' m16'
  go_wp2_with fail
  refine (eqV_same _ _ _ _ _ _ g19 q19).mono ?_
  rintro e w20 ⟨rfl, hB20⟩
  have b20 := b19.trans (hB20.mono b19.size)
  have m20 := m19.below hB20
  clear g19 q19 m19 hB20 b19
  go_wp2_with fail
  refine (heldEvs_any _ _ 1 R.length w20 m20 (by omega) (by omega)).mono ?_
  rintro e w21 ⟨rfl, hB21⟩
  have b21 := b20.trans (hB21.mono b20.size)
  go_wp2
  go_ret
  exact ⟨rfl, HB0.out.trans (b21.mono HB0.out.size)⟩

set_option maxRecDepth 100000 in
theorem merged_lifted (os : Os) (started : os.Started) (H : Type) (enc : TypeId × Value → H) :
    ReturnsInHanded {} Try.checked os 7 .any (Rows.fnExactBeatsMergedSpec.pre6 enc Try.prog Try.f7 Rows.fnExactBeatsMergedRow.domain false) (Rows.fnExactBeatsMergedSpec.post enc Try.prog Try.f7 false true false false) := by
  refine returnsInHanded_of_change (C := Try.checked) own started (by kernel_rfl) Try.func7
    (ChangeSpec.witness6 (enc := enc) (C := Try.checked) false ⟨#[], #[.slice none 0 0, .slice none 0 0], []⟩ 8 (by kernel_rfl) (by kernel_rfl) (by kernel_rfl) (by kernel_rfl)) ?_
  intro W base args ds gs before hval0 hW hcnd _
  have hval : ∀ (j : Nat) t v, Try.f7.params[j]? = some t → args[j]? = some v → Value.okWide Try.prog W .any base t v := hval0
  have hW' := hW
  obtain ⟨p, q, hA0, hV, rfl, hfz, hnd⟩ := hW
  have hA : DataW.TrodAll enc Try.prog W 0 (fun _ => true) true Try.f7.params.toList args.toList ds p := hA0
  rw [Try.params7] at hA hval
  obtain ⟨v0, vs0, d0, ds0, p0, q0, hargs, rfl, rfl, h0, r0⟩ := trodAll_cons hA
  obtain ⟨v1, vs1, d1, ds1, p1, q1, rfl, rfl, rfl, h1, r1⟩ := trodAll_cons r0
  obtain ⟨rfl, rfl, rfl⟩ := trodAll_nil r1
  obtain rfl : args = #[v0, v1] := by cases args; simp_all
  obtain ⟨rfl, rfl⟩ := trodVars_none hV
  obtain ⟨a0, len0, cap0, rfl⟩ := okWide_slice Try.underlying22 (hval 0 22 v0 rfl rfl)
  obtain ⟨a1, len1, cap1, rfl⟩ := okWide_slice Try.underlying22 (hval 1 22 v1 rfl rfl)
  have k0 := h0
  have k1 := h1
  have lt0 : ∀ x ∈ p0, x.block < W.heap.size := by obtain ⟨m, hm⟩ := k0; exact DataW.trod_lt m _ _ _ hm
  have lt1 : ∀ x ∈ p1, x.block < W.heap.size := by obtain ⟨m, hm⟩ := k1; exact DataW.trod_lt m _ _ _ hm
  obtain ⟨D, w0, f0⟩ : ∃ D, IsEvs W a0 len0 cap0 D ∧ ∀ i, i < len0 → (D i).in := by
    obtain ⟨fuel, hf⟩ := h0
    obtain ⟨a, len, cap, D, e, hI, hF⟩ := open_evs (by simpa [Value.cells] using hf)
    simp at e
    obtain ⟨rfl, rfl, rfl⟩ := e
    exact ⟨D, hI, hF⟩
  obtain ⟨D1, w1, f1⟩ : ∃ D, IsEvs W a1 len1 cap1 D ∧ ∀ i, i < len1 → (D i).in := by
    obtain ⟨fuel, hf⟩ := h1
    obtain ⟨a, len, cap, D, e, hI, hF⟩ := open_evs (by simpa [Value.cells] using hf)
    simp at e
    obtain ⟨rfl, rfl, rfl⟩ := e
    exact ⟨D, hI, hF⟩
  clear hA0 hval0
  refine (merged_walk a0 len0 cap0 D a1 len1 cap1 D1 W w0 w1 f0 f1).mono fun e W' ⟨he, bel⟩ => ?_
  subst he
  exact ⟨_, rfl, _, _, _, [], _, [], hW', trodAll_mk1 (shut_bool Try.underlying4 _), (trodAll_cons_mk (Below.trod laidOut (by kernel_rfl) (of_decide_eq_true (by kernel_rfl)) k0 bel lt0) (trodAll_cons_mk (Below.trod laidOut (by kernel_rfl) (of_decide_eq_true (by kernel_rfl)) k1 bel lt1) trodAll_mk0)), rfl, bel.frame _, fun h => by cases h⟩

theorem merged_proved : Rows.FnExactBeatsMergedSaid :=
  OpenClaim.holds_of_wide 7 Try.f7 rfl rfl rfl rfl rfl rfl rfl ⟨rfl, rfl, rfl, rfl, rfl⟩ rfl rfl rfl rfl rfl (by kernel_rfl) Try.func7 (by kernel_rfl)
    (of_decide_eq_true (by kernel_rfl)) (by unfold Func.isWrapper; first | (rw [if_pos (by decide +kernel)]; kernel_rfl) | (rw [if_neg (by decide +kernel)]; exact ⟨rfl, rfl⟩))
    (fun os started H enc _ => merged_lifted os started H enc)
#print axioms merged_proved
end Go.Proofs.Ytaepmojiiiinaaa
