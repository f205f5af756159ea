/-
  The statement FnExactRowsMergedSaid: at every argument the law returns true, and the arguments read afterwards as they read before. No condition.
-/
import Derived.Test.YtjnngncnfbdpkaaRwO
import Derived.Test.YtjnngncnfbdpkaaRwX2
import Derived.Test.YtjnngncnfbdpkaaRwZ
namespace Go.Proofs.Ytjnngncnfbdpkaa
open Go.ChangeShapes Go.WideShapes Go.ChangeAt Go.RowKit Go.Deep
set_option linter.unusedVariables false

theorem offR_le (L : List Rw) (h : ∀ i, i < L.length → (L.getD i rwZ).cs.length ≤ 1048576) : ∀ i, i ≤ L.length → offR L i ≤ i * 1048577
  | 0, _ => by simp [offR]
  | i + 1, hi => by
    rw [offR_succ L (by omega)]
    have := offR_le L h i (by omega)
    have := h i (by omega)
    omega

theorem OwnR.turn {lo hi lo' hi' : Nat} {w w' : World} {v : Value} {L : List Rw} (h : OwnR w lo hi v L) (hh : hi ≤ w.heap.size) (hT : TurnR lo' hi' w w') (hn : hi ≤ lo' ∨ hi' ≤ lo) : OwnR w' lo hi v L :=
  h.at fun k h1 h2 => hT.block k (by omega) (by omega)

set_option maxRecDepth 10000 in
set_option maxHeartbeats 4000000 in
theorem rowsMerged_walk (v u : Value) (L M : List Rw) (w0 : World) (h : RdR w0 v L) (hu : RdR w0 u M) :
    Calls Try.prog 3 #[v, u] w0 fun e w' => e = .returned (.bool true) ∧ Below w0.heap.size w0 w' := by
  have HH : Hid (RdR w0 v L) := h
  have HU : Hid (RdR w0 u M) := hu
  clear h hu
  go_enter Try.func3, Try.ntmps3
  go_wp2_with fail
  refine (szRows_any v L w0 HH.out _ (by omega) (by omega)).mono ?_
  rintro e wa ⟨r, rfl, hr, hBa⟩
  rcases hr with hr | ⟨hr, hr1, hl, hcs⟩
  · go_wp2
    go_ret
    exact ⟨rfl, hBa⟩
  have HBa : Hid (Below w0.heap.size w0 wa) := hBa
  have HL : Hid (L.length ≤ 1048576 ∧ ∀ i, i < L.length → (L.getD i rwZ).cs.length ≤ 1048576) := ⟨hl, hcs⟩
  clear hBa hl hcs
  go_wp2_with fail
  refine (szRows_any u M wa (HU.out.below HBa.out) _ (by omega) (by omega)).mono ?_
  rintro e w ⟨r2, rfl, hr2, hBb⟩
  have HB0 : Hid (Below w0.heap.size w0 w) := HBa.out.trans (hBb.mono HBa.out.size)
  clear hBb
  rcases hr2 with hr2 | ⟨hr2, hr3, hl2, hcs2⟩
  · clear hr hr1
    go_wp2
    go_ret
    exact ⟨rfl, HB0.out⟩
  have HM : Hid (M.length ≤ 1048576 ∧ ∀ i, i < M.length → (M.getD i rwZ).cs.length ≤ 1048576) := ⟨hl2, hcs2⟩
  clear hl2 hcs2 hr1 hr3
  have T : Hid (∀ w', Below w.heap.size w w' → Calls Try.prog 8 #[v] w' fun e w'' => ∃ v', e = .returned v' ∧ OwnR w'' w'.heap.size w''.heap.size v' L ∧ Below w'.heap.size w' w'') := fun w' hB' => toRows_any v L w' ((HH.out.below HB0.out).below hB') HL.out.1 HL.out.2
  have U : Hid (∀ w', Below w.heap.size w w' → Calls Try.prog 8 #[u] w' fun e w'' => ∃ v', e = .returned v' ∧ OwnR w'' w'.heap.size w''.heap.size v' M ∧ Below w'.heap.size w' w'') := fun w' hB' => toRows_any u M w' ((HU.out.below HB0.out).below hB') HM.out.1 HM.out.2
  have hS : ∀ w' v' u', RdR w' v' L → RdR w' u' M → Calls Try.prog 7 #[v', u'] w' fun e w'' => ∃ r, e = .returned (.tuple #[r, .bool (rowsB L && rowsB M)]) ∧ OwnR w'' w'.heap.size w''.heap.size r (mgR L M) ∧ Below w'.heap.size w' w'' := fun w' v' u' q1 q2 => specMerged_any v' u' L M w' q1 q2
  have hI : ∀ w' v' u', RdR w' v' L → RdR w' u' M → Calls Try.prog 9 #[v', u'] w' fun e w'' => ∃ r, e = .returned (.tuple #[r, .bool (rowsB L && rowsB M)]) ∧ OwnR w'' w'.heap.size w''.heap.size r (mgR L M) ∧ Below w'.heap.size w' w'' := fun w' v' u' q1 q2 => implMerged_any v' u' L M w' q1 q2 HL.out.1 HM.out.1
  have hRl := mgR_len L M
  have hRc := mgR_cs L M
  obtain ⟨R, hR⟩ : ∃ R, R = mgR L M := ⟨_, rfl⟩
  obtain ⟨b, hb⟩ : ∃ b, b = (rowsB L && rowsB M) := ⟨_, rfl⟩
  rw [← hR] at hRl hRc
  simp only [← hR, ← hb] at hS hI
  have S := (show Hid _ from hS)
  have I := (show Hid _ from hI)
  have hbb : (b != b) = false := by simp
  have ML : Hid (∀ lo hi v w, OwnR w lo hi v L → hi ≤ w.heap.size → Calls Try.prog 11 #[v, .int .i64 1] w fun e w' => ∃ K : Nat, K ≤ 1099512700001 ∧ e = .returned (.int .i64 (K : Int)) ∧ TurnR lo hi w w') := fun lo hi v w q1 q2 => by
    have hoff : ∀ i, i ≤ L.length → offR L i ≤ 1099512700000 := fun i hi' => by have := offR_le L HL.out.2 i hi'; have := HL.out.1; omega
    exact (markRows_any lo hi v L 1 w q1 q2 HL.out.1 HL.out.2 (by omega) hoff).mono fun e w' ⟨h1, h2, h3⟩ => ⟨1 + offR L L.length, by have := hoff L.length (Nat.le_refl _); omega, h1, h3⟩
  have MM : Hid (∀ lo hi v w (K : Nat), K ≤ 1099512700001 → OwnR w lo hi v M → hi ≤ w.heap.size → Calls Try.prog 11 #[v, .int .i64 (K : Int)] w fun e w' => ∃ K' : Nat, K' ≤ 2199100000000 ∧ e = .returned (.int .i64 (K' : Int)) ∧ TurnR lo hi w w') := fun lo hi v w K hK q1 q2 => by
    have hoff : ∀ i, i ≤ M.length → offR M i ≤ 1099512700000 := fun i hi' => by have := offR_le M HM.out.2 i hi'; have := HM.out.1; omega
    exact (markRows2_any lo hi v M K w q1 q2 HM.out.1 HM.out.2 (by omega) hoff).mono fun e w' ⟨h1, h2, h3⟩ => ⟨K + offR M M.length, by have := hoff M.length (Nat.le_refl _); omega, h1, h3⟩
  have hRo : ∀ i, i ≤ R.length → offR R i ≤ 10000000 := fun i hi' => by have := offR_le R (fun i _ => by have := hRc i; omega) i hi'; omega
  have MG : Hid (∀ lo hi v w, OwnR w lo hi v R → hi ≤ w.heap.size → Calls Try.prog 11 #[v, .int .i64 1] w fun e w' => e = .returned (.int .i64 ((1 + offR R R.length : Nat) : Int)) ∧ OwnR w' lo hi v (mixR 1 R R.length) ∧ TurnR lo hi w w') := fun lo hi v w q1 q2 =>
    markRows_any lo hi v R 1 w q1 q2 (by omega) (fun i _ => by have := hRc i; omega) (by omega) (fun i hi' => by have := hRo i hi'; omega)
  have HG : Hid (∀ v w, RdR w v (mixR 1 R R.length) → Calls Try.prog 12 #[v, .int .i64 1] w fun e w' => e = .returned (.int .i64 ((1 + offR R R.length : Nat) : Int)) ∧ Below w.heap.size w w') := fun v w q1 =>
    heldRows_any v R 1 w q1 (by omega) (fun i _ => by have := hRc i; omega) (by omega) (fun i hi' => by have := hRo i hi'; omega)
  obtain ⟨tot, htot⟩ : ∃ t, t = 1 + offR R R.length := ⟨_, rfl⟩
  rw [← htot] at MG HG
  have hq1 : decide ((tot : Int) < 0) = false := decide_eq_false (by omega)
  have hq2 : ((tot : Int) != (tot : Int)) = false := by simp
  clear hS hI hR hb htot hRo hRc hRl
  go_wp2_with fail
  refine (T.out w (Below.refl _ _)).mono ?_
  rintro e w2 ⟨v2, rfl, o2, b2⟩
  go_wp2_with fail
  refine (U.out w2 b2).mono ?_
  rintro e w3 ⟨u3, rfl, o3, hB3⟩
  have b3 : Below w.heap.size w w3 := b2.trans (hB3.mono b2.size)
  go_wp2_with fail
  refine (S.out w3 _ _ (o2.rd.below hB3) o3.rd).mono ?_
  rintro e w4 ⟨vw, rfl, q4, hB4⟩
  have b4 : Below w.heap.size w w4 := b3.trans (hB4.mono b3.size)
  have b4s : w.heap.size ≤ w4.heap.size := b4.size
  clear o2 o3 hB3 hB4 b2 b3
  go_wp2_with fail
  refine (T.out w4 b4).mono ?_
  rintro e w5 ⟨v5, rfl, x5, hB5⟩
  have b5 : Below w.heap.size w w5 := b4.trans (hB5.mono b4.size)
  have q5 := q4.below (Nat.le_refl _) hB5
  have s5 : w4.heap.size ≤ w5.heap.size := hB5.size
  go_wp2_with fail
  refine (U.out w5 b5).mono ?_
  rintro e w6 ⟨u6, rfl, y6, hB6⟩
  have b6 : Below w.heap.size w w6 := b5.trans (hB6.mono b5.size)
  have q6 := q5.below s5 hB6
  have x6 := x5.below (Nat.le_refl _) hB6
  have s6 : w5.heap.size ≤ w6.heap.size := hB6.size
  clear q4 hB5 b4 q5 x5 hB6 b5
  go_wp2_with fail
  refine (I.out w6 _ _ x6.rd y6.rd).mono ?_
  rintro e w7 ⟨vg, rfl, g7, hB7⟩
  have b7 : Below w.heap.size w w7 := b6.trans (hB7.mono b6.size)
  have q7 := q6.below (Nat.le_trans s5 s6) hB7
  have x7 := x6.below s6 hB7
  have y7 := y6.below (Nat.le_refl _) hB7
  have s7 : w6.heap.size ≤ w7.heap.size := hB7.size
  clear q6 x6 y6 hB7 b6
  go_wp2_with fail
  refine (eqRows_same _ _ R _ g7.rd q7.rd).mono ?_
  rintro e w8 ⟨rfl, hB8⟩
  have b8 : Below w.heap.size w w8 := b7.trans (hB8.mono b7.size)
  have q8 := q7.below (by omega) hB8
  have x8 := x7.below (by omega) hB8
  have y8 := y7.below (by omega) hB8
  have g8 := g7.below (Nat.le_refl _) hB8
  have s8 : w7.heap.size ≤ w8.heap.size := hB8.size
  clear q7 x7 y7 g7 hB8 b7
  go_wp2_with fail
  refine (T.out w8 b8).mono ?_
  rintro e w9 ⟨v9, rfl, o9, hB9⟩
  go_wp2_with fail
  refine (eqRows_same _ _ L _ (x8.below (by omega) hB9).rd o9.rd).mono ?_
  rintro e w10 ⟨rfl, hB10⟩
  have hB810 : Below w8.heap.size w8 w10 := hB9.trans (hB10.mono hB9.size)
  have b10 : Below w.heap.size w w10 := b8.trans (hB810.mono b8.size)
  have q10 := q8.below (by omega) hB810
  have x10 := x8.below (by omega) hB810
  have y10 := y8.below (by omega) hB810
  have g10 := g8.below (by omega) hB810
  have s10 : w7.heap.size ≤ w10.heap.size := Nat.le_trans s8 hB810.size
  clear q8 x8 y8 g8 hB9 hB10 hB810 o9 b8 s8
  go_wp2_with fail
  refine (U.out w10 b10).mono ?_
  rintro e w11 ⟨v11, rfl, o11, hB11⟩
  go_wp2_with fail
  refine (eqRows_same _ _ M _ (y10.below (by omega) hB11).rd o11.rd).mono ?_
  rintro e w12 ⟨rfl, hB12⟩
  have hB1012 : Below w10.heap.size w10 w12 := hB11.trans (hB12.mono hB11.size)
  have b12 : Below w.heap.size w w12 := b10.trans (hB1012.mono b10.size)
  have q12 := q10.below (by omega) hB1012
  have x12 := x10.below (by omega) hB1012
  have y12 := y10.below (by omega) hB1012
  have g12 := g10.below (by omega) hB1012
  have s12 : w7.heap.size ≤ w12.heap.size := Nat.le_trans s10 hB1012.size
  clear q10 x10 y10 g10 hB11 hB12 hB1012 o11 b10 s10
  go_wp2_with fail
  refine (ML.out _ _ _ _ x12 (by omega)).mono ?_
  rintro e w13 ⟨K, hK, rfl, hT13⟩
  have b13 := hT13.below b12 b4s (Nat.le_refl _)
  have q13 := q12.turn (by omega) hT13 (by omega)
  have y13 := y12.turn (by omega) hT13 (by omega)
  have g13 := g12.turn (by omega) hT13 (by omega)
  have s13 : w7.heap.size ≤ w13.heap.size := Nat.le_trans s12 hT13.size
  clear q12 x12 y12 g12 hT13 b12 s12
  go_wp2_with fail
  refine (MM.out _ _ _ _ K hK y13 (by omega)).mono ?_
  rintro e w14 ⟨K2, hK2, rfl, hT14⟩
  have b14 := hT14.below b13 (by omega) (Nat.le_refl _)
  have q14 := q13.turn (by omega) hT14 (by omega)
  have g14 := g13.turn (by omega) hT14 (by omega)
  have s14 : w7.heap.size ≤ w14.heap.size := Nat.le_trans s13 hT14.size
  clear q13 y13 g13 hT14 b13 s13
  have hk14 : decide ((K2 : Int) < 0) = false := decide_eq_false (by omega)
  go_wp2_with fail
  refine (eqRows_same _ _ R _ g14.rd q14.rd).mono ?_
  rintro e w15 ⟨rfl, hB15⟩
  have b15 := b14.trans (hB15.mono b14.size)
  have g15 := g14.below (by omega) hB15
  have q15 := q14.below (by omega) hB15
  have s15 : w7.heap.size ≤ w15.heap.size := Nat.le_trans s14 hB15.size
  clear g14 q14 hB15 b14 s14
  go_wp2_with fail
  refine (MG.out _ _ _ _ g15 s15).mono ?_
  rintro e w16 ⟨rfl, m16, hT16⟩
  have b16 := hT16.below b15 (by omega) (Nat.le_refl _)
  have q16 := q15.turn (by omega) hT16 (by omega)
  have s16 : w7.heap.size ≤ w16.heap.size := Nat.le_trans s15 hT16.size
  clear g15 q15 hT16 b15 s15
  go_wp2_with fail
  refine (HG.out _ w16 m16.rd).mono ?_
  rintro e w17 ⟨rfl, hB17⟩
  have b17 := b16.trans (hB17.mono b16.size)
  have q17 := q16.below (by omega) hB17
  have m17 := m16.below (by omega) hB17
  have s17 : w7.heap.size ≤ w17.heap.size := Nat.le_trans s16 hB17.size
  clear q16 m16 b16 hB17 s16
  go_wp2_with fail
  refine (T.out w17 b17).mono ?_
  rintro e w18 ⟨v18, rfl, o18, hB18⟩
  have b18 := b17.trans (hB18.mono b17.size)
  go_wp2_with fail
  refine (U.out w18 b18).mono ?_
  rintro e w19 ⟨u19, rfl, o19, hB19⟩
  go_wp2_with fail
  refine (I.out w19 _ _ (o18.rd.below hB19) o19.rd).mono ?_
  rintro e w20 ⟨vh, rfl, g20, hB20⟩
  have hB1720 : Below w17.heap.size w17 w20 := hB18.trans ((hB19.trans (hB20.mono hB19.size)).mono hB18.size)
  have b20 := b17.trans (hB1720.mono b17.size)
  have q20 := q17.below (by omega) hB1720
  have m20 := m17.below (by omega) hB1720
  have s20 : w7.heap.size ≤ w20.heap.size := Nat.le_trans s17 hB1720.size
  clear o18 o19 hB18 hB19 hB20 hB1720 b17 b18 q17 m17
  go_wp2_with fail
  refine (eqRows_same _ _ R _ g20.rd q20.rd).mono ?_
  rintro e w21 ⟨rfl, hB21⟩
  have b21 := b20.trans (hB21.mono b20.size)
  have m21 := m20.below s20 hB21
  clear g20 q20 m20 hB21 b20
  go_wp2_with fail
  refine (HG.out _ w21 m21.rd).mono ?_
  rintro e w22 ⟨rfl, hB22⟩
  have b22 := b21.trans (hB22.mono b21.size)
  go_wp2
  go_ret
  exact ⟨rfl, HB0.out.trans (b22.mono HB0.out.size)⟩

set_option maxRecDepth 100000 in
theorem rowsMerged_lifted (os : Os) (started : os.Started) (H : Type) (enc : TypeId × Value → H) :
    ReturnsInHanded {} Try.checked os 3 .any (Rows.fnExactRowsMergedSpec.pre6 enc Try.prog Try.f3 Rows.fnExactRowsMergedRow.domain false) (Rows.fnExactRowsMergedSpec.post enc Try.prog Try.f3 false true false false) := by
  refine returnsInHanded_of_change (C := Try.checked) own started (by kernel_rfl) Try.func3
    (ChangeSpec.witness6 (enc := enc) (C := Try.checked) false ⟨#[], #[.slice none 0 0, .slice none 0 0], []⟩ 8 (by kernel_rfl) (by kernel_rfl) (by kernel_rfl) (by kernel_rfl)) ?_
  intro W base args ds gs before hval0 hW hcnd _
  have hval : ∀ (j : Nat) t v, Try.f3.params[j]? = some t → args[j]? = some v → Value.okWide Try.prog W .any base t v := hval0
  have hW' := hW
  obtain ⟨p, q, hA0, hV, rfl, hfz, hnd⟩ := hW
  have hA : DataW.TrodAll enc Try.prog W 0 (fun _ => true) true Try.f3.params.toList args.toList ds p := hA0
  rw [Try.params3] at hA hval
  obtain ⟨v0, vs0, d0, ds0, p0, q0, hargs, rfl, rfl, h0, r0⟩ := trodAll_cons hA
  obtain ⟨v1, vs1, d1, ds1, p1, q1, rfl, rfl, rfl, h1, r1⟩ := trodAll_cons r0
  obtain ⟨rfl, rfl, rfl⟩ := trodAll_nil r1
  obtain rfl : args = #[v0, v1] := by cases args; simp_all
  obtain ⟨rfl, rfl⟩ := trodVars_none hV
  obtain ⟨a0, len0, cap0, rfl⟩ := okWide_slice Try.underlying22 (hval 0 22 v0 rfl rfl)
  obtain ⟨a1, len1, cap1, rfl⟩ := okWide_slice Try.underlying22 (hval 1 22 v1 rfl rfl)
  have k0 := h0
  have lt0 : ∀ x ∈ p0, x.block < W.heap.size := by obtain ⟨m, hm⟩ := k0; exact DataW.trod_lt m _ _ _ hm
  have k1 := h1
  have lt1 : ∀ x ∈ p1, x.block < W.heap.size := by obtain ⟨m, hm⟩ := k1; exact DataW.trod_lt m _ _ _ hm
  obtain ⟨L, w0⟩ : ∃ L, RdR W (.slice a0 len0 cap0) L := by
    obtain ⟨fuel, hf⟩ := h0
    exact open_rows (by simpa [Value.cells] using hf)
  obtain ⟨M, w1⟩ : ∃ L, RdR W (.slice a1 len1 cap1) L := by
    obtain ⟨fuel, hf⟩ := h1
    exact open_rows (by simpa [Value.cells] using hf)
  clear hA0 hval0
  refine (rowsMerged_walk _ _ L M W w0 w1).mono fun e W' ⟨he, bel⟩ => ?_
  subst he
  exact ⟨_, rfl, _, _, _, [], _, [], hW', trodAll_mk1 (shut_bool Try.underlying4 _), (trodAll_cons_mk (Below.trod laidOut (by kernel_rfl) (of_decide_eq_true (by kernel_rfl)) k0 bel lt0) (trodAll_cons_mk (Below.trod laidOut (by kernel_rfl) (of_decide_eq_true (by kernel_rfl)) k1 bel lt1) trodAll_mk0)), rfl, bel.frame _, fun h => by cases h⟩

theorem rowsMerged_proved : Rows.FnExactRowsMergedSaid :=
  OpenClaim.holds_of_wide 3 Try.f3 rfl rfl rfl rfl rfl rfl rfl ⟨rfl, rfl, rfl, rfl, rfl⟩ rfl rfl rfl rfl rfl (by kernel_rfl) Try.func3 (by kernel_rfl)
    (of_decide_eq_true (by kernel_rfl)) (by unfold Func.isWrapper; first | (rw [if_pos (by decide +kernel)]; kernel_rfl) | (rw [if_neg (by decide +kernel)]; exact ⟨rfl, rfl⟩))
    (fun os started H enc _ => rowsMerged_lifted os started H enc)
#print axioms rowsMerged_proved
end Go.Proofs.Ytjnngncnfbdpkaa
