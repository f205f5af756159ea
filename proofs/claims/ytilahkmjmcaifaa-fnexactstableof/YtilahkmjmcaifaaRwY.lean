/-
  The statement FnExactStableOfSaid: at every argument the law returns true, and the arguments read afterwards as they read before. No condition.
-/
import Derived.Test.YtilahkmjmcaifaaRwO
import Derived.Test.YtilahkmjmcaifaaRwW
import Derived.Test.YtilahkmjmcaifaaRwX
namespace Go.Proofs.Ytilahkmjmcaifaa
open Go.ChangeShapes Go.WideShapes Go.ChangeAt Go.RowKit Go.Deep
set_option linter.unusedVariables false

theorem offR_le (L : List Rw) (h : ∀ i, i < L.length → (L.getD i rwZ).cs.length ≤ 1048576) : ∀ i, i ≤ L.length → offR L i ≤ i * 1048577
  | 0, _ => by simp [offR]
  | i + 1, hi => by
    rw [offR_succ L (by omega)]
    have := offR_le L h i (by omega)
    have := h i (by omega)
    omega

set_option maxRecDepth 10000 in
set_option maxHeartbeats 4000000 in
theorem stableOf_walk (v u : Value) (L : List Rw) (who : List Int) (w0 : World) (h : RdR w0 v L) (hu : RdI w0 u who) (hwf : ∀ z ∈ who, (Lit.int .i64 z).wf = true) :
    Calls Try.prog 5 #[v, u] w0 fun e w' => e = .returned (.bool true) ∧ Below w0.heap.size w0 w' := by
  have HUU : Hid (RdI w0 u who) := hu
  obtain ⟨au, cu, huv, _⟩ := hu.shape
  clear hu
  subst huv
  obtain ⟨m, hm⟩ : ∃ m, m = who.length := ⟨_, rfl⟩
  have HM : Hid (m = who.length) := hm
  rw [← hm] at HUU ⊢
  clear hm
  by_cases hbig : 1048576 < m
  · have hbigI : (1048576 : Int) < (m : Int) := by omega
    go_enter Try.func5, Try.ntmps5
    go_wp2
    go_ret
    exact ⟨rfl, Below.refl _ _⟩
  have hsz : m ≤ 1048576 := by omega
  have hbigI : decide ((1048576 : Int) < (m : Int)) = false := by simp; omega
  clear hbig
  go_enter Try.func5, Try.ntmps5
  go_wp2_with fail
  refine (szRows_any v L w0 h _ (by omega) (by omega)).mono ?_
  rintro e w ⟨r, rfl, hr, hB0⟩
  rcases hr with hr | ⟨hr, hr1, hl, hcs⟩
  · go_wp2
    go_ret
    exact ⟨rfl, hB0⟩
  have HB0 : Hid (Below w0.heap.size w0 w) := hB0
  have T : Hid (∀ w', Below w.heap.size w w' → Calls Try.prog 8 #[v] w' fun e w'' => ∃ v', e = .returned v' ∧ OwnR w'' w'.heap.size w''.heap.size v' L ∧ Below w'.heap.size w' w'') := fun w' hB' => toRows_any v L w' ((h.below hB0).below hB') hl hcs
  have U : Hid (∀ w', Below w.heap.size w w' → Calls Try.prog 16 #[.slice au m cu] w' fun e w'' => ∃ v', e = .returned v' ∧ OwnI w'' w'.heap.size v' who ∧ Below w'.heap.size w' w'') := fun w' hB' => (toI_any _ who w' ((HUU.out.below hB0).below hB') (by rw [← HM.out]; exact hsz)).mono fun e w'' ⟨h1, h2, h3⟩ => ⟨_, h1, h2, h3⟩
  have hRl := stR_len L who
  have hS : ∀ w' v' u', RdR w' v' L → RdI w' u' who → Calls Try.prog 15 #[v', u'] w' fun e w'' => ∃ r, e = .returned r ∧ OwnI w'' w'.heap.size r (stR L who) ∧ Below w'.heap.size w' w'' := fun w' v' u' q1 q2 => specStable_any v' u' L who w' q1 q2
  have hI : ∀ w' v' u', RdR w' v' L → RdI w' u' who → Calls Try.prog 17 #[v', u'] w' fun e w'' => ∃ r, e = .returned r ∧ OwnI w'' w'.heap.size r (stR L who) ∧ Below w'.heap.size w' w'' := fun w' v' u' q1 q2 => implStable_any v' u' L who w' q1 hl q2 hwf
  obtain ⟨R, hR⟩ : ∃ R, R = stR L who := ⟨_, rfl⟩
  rw [← hR] at hRl
  simp only [← hR] at hS hI
  have S := (show Hid _ from hS)
  have I := (show Hid _ from hI)
  have MR : Hid (∀ lo hi v w, OwnR w lo hi v L → hi ≤ w.heap.size → Calls Try.prog 13 #[v, .int .i64 1] w fun e w' => ∃ K : Nat, K ≤ 1099512700001 ∧ e = .returned (.int .i64 (K : Int)) ∧ TurnR lo hi w w') := fun lo hi v w q1 q2 => by
    have hoff : ∀ i, i ≤ L.length → offR L i ≤ 1099512700000 := fun i hi' => by have := offR_le L hcs i hi'; omega
    exact (markRows_any lo hi v L 1 w q1 q2 hl hcs (by omega) hoff).mono fun e w' ⟨h1, h2, h3⟩ => ⟨1 + offR L L.length, by have := hoff L.length (Nat.le_refl _); omega, h1, h3⟩
  have hml : who.length ≤ 1048576 := by rw [← HM.out]; exact hsz
  clear hS hI hR h hwf hcs hB0 HUU
  go_wp2_with fail
  refine (T.out w (Below.refl _ _)).mono ?_
  rintro e w2 ⟨v2, rfl, o2, b2⟩
  go_wp2_with fail
  refine (U.out w2 b2).mono ?_
  rintro e w3 ⟨u3, rfl, o3, hB3⟩
  have b3 : Below w.heap.size w w3 := b2.trans (hB3.mono b2.size)
  go_wp2_with fail
  refine (S.out w3 _ _ (o2.rd.below hB3) o3.rd).mono ?_
  rintro e w4 ⟨vw, rfl, q4, hB4⟩
  have b4 : Below w.heap.size w w4 := b3.trans (hB4.mono b3.size)
  have ql : ∀ k, vw.ownBlock = some k → k < w4.heap.size := fun k hk => (World.ownsRow.lt q4 k hk).2
  have b4s : w.heap.size ≤ w4.heap.size := b4.size
  clear o2 o3 hB3 hB4 b2 b3
  go_wp2_with fail
  refine (T.out w4 b4).mono ?_
  rintro e w5 ⟨v5, rfl, x5, hB5⟩
  have b5 : Below w.heap.size w w5 := b4.trans (hB5.mono b4.size)
  have q5 := q4.below hB5
  have s5 : w4.heap.size ≤ w5.heap.size := hB5.size
  go_wp2_with fail
  refine (U.out w5 b5).mono ?_
  rintro e w6 ⟨u6, rfl, y6, hB6⟩
  have b6 : Below w.heap.size w w6 := b5.trans (hB6.mono b5.size)
  have q6 := q5.below hB6
  have x6 := x5.below (Nat.le_refl _) hB6
  have s6 : w5.heap.size ≤ w6.heap.size := hB6.size
  have yl : ∀ k, u6.ownBlock = some k → w5.heap.size ≤ k ∧ k < w6.heap.size := fun k hk => World.ownsRow.lt y6 k hk
  clear q4 hB5 b4 q5 x5 hB6 b5
  go_wp2_with fail
  refine (I.out w6 _ _ x6.rd y6.rd).mono ?_
  rintro e w7 ⟨vg, rfl, g7, hB7⟩
  have b7 : Below w.heap.size w w7 := b6.trans (hB7.mono b6.size)
  have q7 := q6.below hB7
  have x7 := x6.below s6 hB7
  have y7 := y6.below hB7
  have s7 : w6.heap.size ≤ w7.heap.size := hB7.size
  have gl : ∀ k, vg.ownBlock = some k → w6.heap.size ≤ k := fun k hk => (World.ownsRow.lt g7 k hk).1
  clear q6 x6 y6 hB7 b6
  go_wp2_with fail
  refine (eqI_same _ _ _ _ g7.rd q7.rd).mono ?_
  rintro e w8 ⟨rfl, hB8⟩
  have b8 : Below w.heap.size w w8 := b7.trans (hB8.mono b7.size)
  have q8 := q7.below hB8
  have x8 := x7.below (Nat.le_trans s6 s7) hB8
  have y8 := y7.below hB8
  have g8 := g7.below hB8
  have s8 : w5.heap.size ≤ w8.heap.size := Nat.le_trans (Nat.le_trans s6 s7) hB8.size
  clear q7 x7 y7 g7 hB8 b7 s7
  go_wp2_with fail
  refine (T.out w8 b8).mono ?_
  rintro e w9 ⟨v9, rfl, o9, hB9⟩
  go_wp2_with fail
  refine (eqRows_same _ _ L _ (x8.below s8 hB9).rd o9.rd).mono ?_
  rintro e w10 ⟨rfl, hB10⟩
  have hB810 : Below w8.heap.size w8 w10 := hB9.trans (hB10.mono hB9.size)
  have b10 : Below w.heap.size w w10 := b8.trans (hB810.mono b8.size)
  have q10 := q8.below hB810
  have x10 := x8.below s8 hB810
  have y10 := y8.below hB810
  have g10 := g8.below hB810
  have s10 : w5.heap.size ≤ w10.heap.size := Nat.le_trans s8 hB810.size
  clear q8 x8 y8 g8 hB9 hB10 hB810 o9 b8 s8
  go_wp2_with fail
  refine (U.out w10 b10).mono ?_
  rintro e w11 ⟨v11, rfl, o11, hB11⟩
  go_wp2_with fail
  refine (eqI_same _ _ _ _ (y10.below hB11).rd o11.rd).mono ?_
  rintro e w12 ⟨rfl, hB12⟩
  have hB1012 : Below w10.heap.size w10 w12 := hB11.trans (hB12.mono hB11.size)
  have b12 : Below w.heap.size w w12 := b10.trans (hB1012.mono b10.size)
  have q12 := q10.below hB1012
  have x12 := x10.below s10 hB1012
  have y12 := y10.below hB1012
  have g12 := g10.below hB1012
  have s12 : w5.heap.size ≤ w12.heap.size := Nat.le_trans s10 hB1012.size
  clear q10 x10 y10 g10 hB11 hB12 hB1012 o11 b10 s10
  go_wp2_with fail
  refine (MR.out _ _ _ _ x12 s12).mono ?_
  rintro e w13 ⟨K, hK, rfl, hT13⟩
  have b13 := hT13.below b12 b4s (Nat.le_refl _)
  have q13 := q12.turn hT13 (fun k hk e => by have := ql k hk; omega)
  have y13 := y12.turn hT13 (fun k hk e => by have := yl k hk; omega)
  have g13 := g12.turn hT13 (fun k hk e => by have := gl k hk; omega)
  clear q12 x12 y12 g12 hT13 b12
  go_wp2_with fail
  refine (markI_any _ _ who K w13 y13 hml (by omega)).mono ?_
  rintro e w14 ⟨rfl, _, hG14⟩
  have b14 := b13.grown hG14 b13.size (fun k hk => by have := yl k hk; omega)
  have g14 := g13.kept hG14 (fun k hk e => by have h1 := gl k hk; have h2 := yl k e.symm; omega)
  have q14 := q13.kept hG14 (fun k hk e => by have h1 := ql k hk; have h2 := yl k e.symm; omega)
  clear y13 g13 q13 hG14 b13
  have hk14 : decide (((K + who.length : Nat) : Int) < 0) = false := decide_eq_false (by omega)
  go_wp2_with fail
  refine (eqI_same _ _ _ _ g14.rd q14.rd).mono ?_
  rintro e w15 ⟨rfl, hB15⟩
  have b15 := b14.trans (hB15.mono b14.size)
  have g15 := g14.below hB15
  have q15 := q14.below hB15
  clear g14 q14 hB15 b14
  go_wp2_with fail
  refine (markI_any _ _ _ 1 w15 g15 (by omega) (by omega)).mono ?_
  rintro e w16 ⟨rfl, m16, hG16⟩
  have b16 := b15.grown hG16 b15.size (fun k hk => by have := gl k hk; omega)
  have q16 := q15.kept hG16 (fun k hk e => by have h1 := ql k hk; have h2 := gl k e.symm; omega)
  clear g15 q15 hG16 b15
  have hq1 : decide (((1 + R.length : Nat) : Int) < 0) = false := decide_eq_false (by omega)
  have hq2 : (((1 + R.length : Nat) : Int) != ((1 + R.length : Nat) : Int)) = false := by simp
  go_wp2_with fail
  refine (heldI_any _ 1 R.length w16 m16.rd (by omega) (by omega)).mono ?_
  rintro e w17 ⟨rfl, hB17⟩
  have b17 := b16.trans (hB17.mono b16.size)
  have q17 := q16.below hB17
  have m17 := m16.below hB17
  clear q16 m16 b16 hB17
  go_wp2_with fail
  refine (T.out w17 b17).mono ?_
  rintro e w18 ⟨v18, rfl, o18, hB18⟩
  have b18 := b17.trans (hB18.mono b17.size)
  go_wp2_with fail
  refine (U.out w18 b18).mono ?_
  rintro e w19 ⟨u19, rfl, o19, hB19⟩
  go_wp2_with fail
  refine (I.out w19 _ _ (o18.rd.below hB19) o19.rd).mono ?_
  rintro e w20 ⟨vh, rfl, g20, hB20⟩
  have hB1720 : Below w17.heap.size w17 w20 := hB18.trans ((hB19.trans (hB20.mono hB19.size)).mono hB18.size)
  have b20 := b17.trans (hB1720.mono b17.size)
  have q20 := q17.below hB1720
  have m20 := m17.below hB1720
  clear o18 o19 hB18 hB19 hB20 hB1720 b17 b18 q17 m17
  go_wp2_with fail
  refine (eqI_same _ _ _ _ g20.rd q20.rd).mono ?_
  rintro e w21 ⟨rfl, hB21⟩
  have b21 := b20.trans (hB21.mono b20.size)
  have m21 := m20.below hB21
  clear g20 q20 m20 hB21 b20
  go_wp2_with fail
  refine (heldI_any _ 1 R.length w21 m21.rd (by omega) (by omega)).mono ?_
  rintro e w22 ⟨rfl, hB22⟩
  have b22 := b21.trans (hB22.mono b21.size)
  go_wp2
  go_ret
  exact ⟨rfl, HB0.out.trans (b22.mono HB0.out.size)⟩

set_option maxRecDepth 100000 in
theorem stableOf_lifted (os : Os) (started : os.Started) (H : Type) (enc : TypeId × Value → H) :
    ReturnsInHanded {} Try.checked os 5 .any (Rows.fnExactStableOfSpec.pre6 enc Try.prog Try.f5 Rows.fnExactStableOfRow.domain false) (Rows.fnExactStableOfSpec.post enc Try.prog Try.f5 false true false false) := by
  refine returnsInHanded_of_change (C := Try.checked) own started (by kernel_rfl) Try.func5
    (ChangeSpec.witness6 (enc := enc) (C := Try.checked) false ⟨#[], #[.slice none 0 0, .slice none 0 0], []⟩ 8 (by kernel_rfl) (by kernel_rfl) (by kernel_rfl) (by kernel_rfl)) ?_
  intro W base args ds gs before hval0 hW hcnd _
  have hval : ∀ (j : Nat) t v, Try.f5.params[j]? = some t → args[j]? = some v → Value.okWide Try.prog W .any base t v := hval0
  have hW' := hW
  obtain ⟨p, q, hA0, hV, rfl, hfz, hnd⟩ := hW
  have hA : DataW.TrodAll enc Try.prog W 0 (fun _ => true) true Try.f5.params.toList args.toList ds p := hA0
  rw [Try.params5] at hA hval
  obtain ⟨v0, vs0, d0, ds0, p0, q0, hargs, rfl, rfl, h0, r0⟩ := trodAll_cons hA
  obtain ⟨v1, vs1, d1, ds1, p1, q1, rfl, rfl, rfl, h1, r1⟩ := trodAll_cons r0
  obtain ⟨rfl, rfl, rfl⟩ := trodAll_nil r1
  obtain rfl : args = #[v0, v1] := by cases args; simp_all
  obtain ⟨rfl, rfl⟩ := trodVars_none hV
  obtain ⟨a0, len0, cap0, rfl⟩ := okWide_slice Try.underlying22 (hval 0 22 v0 rfl rfl)
  obtain ⟨a1, len1, cap1, rfl⟩ := okWide_slice Try.underlying33 (hval 1 33 v1 rfl rfl)
  have k0 := h0
  have lt0 : ∀ x ∈ p0, x.block < W.heap.size := by obtain ⟨m, hm⟩ := k0; exact DataW.trod_lt m _ _ _ hm
  have k1 := h1
  have lt1 : ∀ x ∈ p1, x.block < W.heap.size := by obtain ⟨m, hm⟩ := k1; exact DataW.trod_lt m _ _ _ hm
  obtain ⟨L, w0⟩ : ∃ L, RdR W (.slice a0 len0 cap0) L := by
    obtain ⟨fuel, hf⟩ := h0
    exact open_rows (by simpa [Value.cells] using hf)
  obtain ⟨who, w1, wf1⟩ : ∃ L : List Int, RdI W (.slice a1 len1 cap1) L ∧ ∀ z ∈ L, (Lit.int .i64 z).wf = true := by
    obtain ⟨fuel, hf⟩ := h1
    exact open_i64 (by simpa [Value.cells] using hf)
  clear hA0 hval0
  refine (stableOf_walk _ _ L who W w0 w1 wf1).mono fun e W' ⟨he, bel⟩ => ?_
  subst he
  exact ⟨_, rfl, _, _, _, [], _, [], hW', trodAll_mk1 (shut_bool Try.underlying4 _), (trodAll_cons_mk (Below.trod laidOut (by kernel_rfl) (of_decide_eq_true (by kernel_rfl)) k0 bel lt0) (trodAll_cons_mk (Below.trod laidOut (by kernel_rfl) (of_decide_eq_true (by kernel_rfl)) k1 bel lt1) trodAll_mk0)), rfl, bel.frame _, fun h => by cases h⟩

theorem stableOf_proved : Rows.FnExactStableOfSaid :=
  OpenClaim.holds_of_wide 5 Try.f5 rfl rfl rfl rfl rfl rfl rfl ⟨rfl, rfl, rfl, rfl, rfl⟩ rfl rfl rfl rfl rfl (by kernel_rfl) Try.func5 (by kernel_rfl)
    (of_decide_eq_true (by kernel_rfl)) (by unfold Func.isWrapper; first | (rw [if_pos (by decide +kernel)]; kernel_rfl) | (rw [if_neg (by decide +kernel)]; exact ⟨rfl, rfl⟩))
    (fun os started H enc _ => stableOf_lifted os started H enc)
#print axioms stableOf_proved
end Go.Proofs.Ytilahkmjmcaifaa
