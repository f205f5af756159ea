/-
  The statement FnExactSeqIdsSaid: at every argument the law returns true, and the argument reads afterwards as it read before. No condition.
-/
import Derived.Test.YtmlikcblfkkpjaaSqY
import Derived.Test.YtmlikcblfkkpjaaEMark
import Derived.Test.YtmlikcblfkkpjaaEVal2
namespace Go.Proofs.Ytmlikcblfkkpjaa
open Go.ChangeShapes Go.WideShapes Go.ChangeAt Go.RowKit Go.Deep
set_option linter.unusedVariables false

set_option maxRecDepth 10000 in
set_option maxHeartbeats 4000000 in
theorem seqIds_walk (a : Option Addr) (len cap : Nat) (D : Nat → Ev) (w0 : World) (h : IsEvs w0 a len cap D) (hF : ∀ i, i < len → (D i).in)  :
    Calls Try.prog 3 #[.slice a len cap] w0 fun e w' => e = .returned (.bool true) ∧ Below w0.heap.size w0 w' := by
  go_enter Try.func3, Try.ntmps3
  go_wp2_with fail
  refine (szOps_any a len cap D w0 h hF _ (by omega) (by omega)).mono ?_
  rintro e w ⟨r, rfl, hr, hB0⟩
  rcases hr with hr | ⟨hr, hr1, hl, _⟩
  · go_wp2
    go_ret
    exact ⟨rfl, hB0⟩
  have HB0 : Hid (Below w0.heap.size w0 w) := hB0
  have h1 := h.below hB0
  clear hB0
  have T : Hid (∀ w', Below w.heap.size w w' → Calls Try.prog 11 #[.slice a len cap] w' fun e w'' => e = .returned (.slice (some ⟨w'.heap.size, 0, none⟩) len len) ∧ EOwn w'' w'.heap.size w'.heap.size len D ∧ Below w'.heap.size w' w'') := fun w' hB' => toEvs_own a len cap D w' (h1.below hB') hl
  have hRl : (idsR D len).length ≤ 40 := idsR_len D len
  have hS : ∀ w' g base, EOwn w' base g len D → Calls Try.prog 10 #[.slice (some ⟨g, 0, none⟩) len len] w' fun e w'' => ∃ v, e = .returned v ∧ OwnI w'' w'.heap.size v (idsR D len) ∧ Below w'.heap.size w' w'' := fun w' g base q => specIds_any _ _ _ D w' (q.evs hl) (fun i hi => (hF i hi).1)
  have hI : ∀ w' g base, EOwn w' base g len D → Calls Try.prog 12 #[.slice (some ⟨g, 0, none⟩) len len] w' fun e w'' => ∃ v, e = .returned v ∧ OwnI w'' w'.heap.size v (idsR D len) ∧ Below w'.heap.size w' w'' := fun w' g base q => implIds_any _ _ _ D w' (q.evs hl) hF
  obtain ⟨R, hR⟩ : ∃ R, R = idsR D len := ⟨_, rfl⟩
  rw [← hR] at hRl
  simp only [← hR] at hS hI
  have S := (show Hid _ from hS)
  have I := (show Hid _ from hI)
  have HV : Hid (∀ w' base g, EOwn w' base g len D → OwnV w' base (.slice (some ⟨g, 0, none⟩) len len) (listD D len)) := fun w' base g q => by
    have := q.own.v
    rw [listD_len] at this
    exact this
  have hll : (listD D len).length ≤ 1048576 := by rw [listD_len]; exact hl
  clear hS hI hR h h1 hF
  go_wp2_with fail
  refine (T.out w (Below.refl _ _)).mono ?_
  rintro e w2 ⟨rfl, o2, b2⟩
  go_wp2_with fail
  refine (S.out w2 _ _ o2).mono ?_
  rintro e w4 ⟨vw, rfl, q4, hB4⟩
  have b4 : Below w.heap.size w w4 := b2.trans (hB4.mono b2.size)
  have ql : ∀ k, vw.ownBlock = some k → k < w4.heap.size := fun k hk => (World.ownsRow.lt q4 k hk).2
  have b4s : w.heap.size ≤ w4.heap.size := b4.size
  clear o2 hB4 b2
  go_wp2_with fail
  refine (T.out w4 b4).mono ?_
  rintro e w5 ⟨rfl, o5, hB5⟩
  have b5 : Below w.heap.size w w5 := b4.trans (hB5.mono b4.size)
  have q5 := q4.below hB5
  have s5 : w4.heap.size < w5.heap.size := (HV.out _ _ _ o5).cases.elim (fun h => by cases h.1) (fun ⟨g, c, h, hO⟩ => by simp at h; rw [h.1]; exact hO.lies.2.1)
  go_wp2_with fail
  refine (I.out w5 _ _ o5).mono ?_
  rintro e w7 ⟨vg, rfl, g7, hB7⟩
  have b7 : Below w.heap.size w w7 := b5.trans (hB7.mono b5.size)
  have q7 := q5.below hB7
  have p7 := o5.below hB7
  clear o5 q5 q4 hB5 hB7 b4 b5
  go_wp2_with fail
  refine (eqI_same _ _ _ _ g7.rd q7.rd).mono ?_
  rintro e w8 ⟨rfl, hB8⟩
  have b8 : Below w.heap.size w w8 := b7.trans (hB8.mono b7.size)
  have q8 := q7.below hB8
  have p8 := p7.below hB8
  have g8 := g7.below hB8
  clear q7 p7 g7 hB8 b7
  go_wp2_with fail
  refine (T.out w8 b8).mono ?_
  rintro e w9 ⟨rfl, x9, hB9⟩
  go_wp2_with fail
  refine (eqEvs_same _ _ _ _ _ D _ ((p8.below hB9).evs hl) (x9.evs hl)).mono ?_
  rintro e w10 ⟨rfl, hB10⟩
  have hB810 : Below w8.heap.size w8 w10 := hB9.trans (hB10.mono hB9.size)
  have b12 : Below w.heap.size w w10 := b8.trans (hB810.mono b8.size)
  have q12 := q8.below hB810
  have p12 := p8.below hB810
  have g12 := g8.below hB810
  clear q8 p8 g8 hB9 hB10 hB810 x9 b8
  have gl : ∀ k, vg.ownBlock = some k → w5.heap.size ≤ k := fun k hk => (World.ownsRow.lt g12 k hk).1
  go_wp2_with fail
  refine (markEvs_any _ _ (listD D len) 1 w10 (HV.out _ _ _ p12) hll (by omega)).mono ?_
  rintro e w13 ⟨rfl, _, hG13⟩
  have b14 := b12.grown hG13 b12.size (fun k hk => by have hk' : some w4.heap.size = some k := hk; cases hk'; exact b4s)
  have g14 := g12.kept hG13 (fun k hk e => by have := gl k hk; have e' : some k = some w4.heap.size := e; cases e'; omega)
  have q14 := q12.kept hG13 (fun k hk e => by have := ql k hk; have e' : some k = some w4.heap.size := e; cases e'; omega)
  rw [listD_len]
  clear p12 g12 q12 hG13 b12
  have hk14 : decide (((1 + len * 4 : Nat) : Int) < 0) = false := decide_eq_false (by omega)
  go_wp2_with fail
  refine (eqI_same _ _ _ _ g14.rd q14.rd).mono ?_
  rintro e w15 ⟨rfl, hB15⟩
  have b15 := b14.trans (hB15.mono b14.size)
  have g15 := g14.below hB15
  have q15 := q14.below hB15
  clear g14 q14 hB15 b14
  go_wp2_with fail
  refine (markI_any _ _ _ 1 w15 g15 (by omega) (by omega)).mono ?_
  rintro e w16 ⟨rfl, m16, hG16⟩
  have b16 := b15.grown hG16 b15.size (fun k hk => by have := gl k hk; omega)
  have q16 := q15.kept hG16 (fun k hk e => by have h1 := ql k hk; have h2 := gl k e.symm; omega)
  clear g15 q15 hG16 b15
  have hq1 : decide (((1 + R.length : Nat) : Int) < 0) = false := decide_eq_false (by omega)
  have hq2 : (((1 + R.length : Nat) : Int) != ((1 + R.length : Nat) : Int)) = false := by simp
  go_wp2_with fail
  refine (heldI_any _ 1 R.length w16 m16.rd (by omega) (by omega)).mono ?_
  rintro e w16' ⟨rfl, hB16'⟩
  have b16' := b16.trans (hB16'.mono b16.size)
  have q16' := q16.below hB16'
  have m16' := m16.below hB16'
  clear q16 m16 b16 hB16'
  go_wp2_with fail
  refine (T.out w16' b16').mono ?_
  rintro e w17 ⟨rfl, o17, hB17⟩
  go_wp2_with fail
  refine (I.out w17 _ _ o17).mono ?_
  rintro e w19 ⟨vh, rfl, g19, hB19⟩
  have hB1619 : Below w16'.heap.size w16' w19 := hB17.trans (hB19.mono hB17.size)
  have b19 := b16'.trans (hB1619.mono b16'.size)
  have q19 := q16'.below hB1619
  have m19 := m16'.below hB1619
  clear o17 hB17 hB19 hB1619 b16' q16' m16'
  go_wp2_with fail
  refine (eqI_same _ _ _ _ g19.rd q19.rd).mono ?_
  rintro e w20 ⟨rfl, hB20⟩
  have b20 := b19.trans (hB20.mono b19.size)
  have m20 := m19.below hB20
  clear g19 q19 m19 hB20 b19
  go_wp2_with fail
  refine (heldI_any _ 1 R.length w20 m20.rd (by omega) (by omega)).mono ?_
  rintro e w21 ⟨rfl, hB21⟩
  have b21 := b20.trans (hB21.mono b20.size)
  go_wp2
  go_ret
  exact ⟨rfl, HB0.out.trans (b21.mono HB0.out.size)⟩

set_option maxRecDepth 100000 in
theorem seqIds_lifted (os : Os) (started : os.Started) (H : Type) (enc : TypeId × Value → H) :
    ReturnsInHanded {} Try.checked os 3 .any (Rows.fnExactSeqIdsSpec.pre6 enc Try.prog Try.f3 Rows.fnExactSeqIdsRow.domain false) (Rows.fnExactSeqIdsSpec.post enc Try.prog Try.f3 false true false false) := by
  refine returnsInHanded_of_change (C := Try.checked) own started (by kernel_rfl) Try.func3
    (ChangeSpec.witness6 (enc := enc) (C := Try.checked) false ⟨#[], #[.slice none 0 0], []⟩ 8 (by kernel_rfl) (by kernel_rfl) (by kernel_rfl) (by kernel_rfl)) ?_
  intro W base args ds gs before hval0 hW hcnd _
  have hval : ∀ (j : Nat) t v, Try.f3.params[j]? = some t → args[j]? = some v → Value.okWide Try.prog W .any base t v := hval0
  have hW' := hW
  obtain ⟨p, q, hA0, hV, rfl, hfz, hnd⟩ := hW
  have hA : DataW.TrodAll enc Try.prog W 0 (fun _ => true) true Try.f3.params.toList args.toList ds p := hA0
  rw [Try.params3] at hA hval
  obtain ⟨v0, vs0, d0, ds0, p0, q0, hargs, rfl, rfl, h0, r0⟩ := trodAll_cons hA
  obtain ⟨rfl, rfl, rfl⟩ := trodAll_nil r0
  obtain rfl : args = #[v0] := by cases args; simp_all
  obtain ⟨rfl, rfl⟩ := trodVars_none hV
  obtain ⟨a0, len0, cap0, rfl⟩ := okWide_slice Try.underlying22 (hval 0 22 v0 rfl rfl)
  have k0 := h0
  have lt0 : ∀ x ∈ p0, x.block < W.heap.size := by obtain ⟨m, hm⟩ := k0; exact DataW.trod_lt m _ _ _ hm
  obtain ⟨D, w0, f0⟩ : ∃ D, IsEvs W a0 len0 cap0 D ∧ ∀ i, i < len0 → (D i).in := by
    obtain ⟨fuel, hf⟩ := h0
    obtain ⟨a, len, cap, D, e, hI, hF⟩ := open_evs (by simpa [Value.cells] using hf)
    simp at e
    obtain ⟨rfl, rfl, rfl⟩ := e
    exact ⟨D, hI, hF⟩
  clear hA0 hval0
  refine (seqIds_walk a0 len0 cap0 D W w0 f0).mono fun e W' ⟨he, bel⟩ => ?_
  subst he
  exact ⟨_, rfl, _, _, _, [], _, [], hW', trodAll_mk1 (shut_bool Try.underlying4 _), (trodAll_cons_mk (Below.trod laidOut (by kernel_rfl) (of_decide_eq_true (by kernel_rfl)) k0 bel lt0) trodAll_mk0), rfl, bel.frame _, fun h => by cases h⟩

theorem seqIds_proved : Rows.FnExactSeqIdsSaid :=
  OpenClaim.holds_of_wide 3 Try.f3 rfl rfl rfl rfl rfl rfl rfl ⟨rfl, rfl, rfl, rfl, rfl⟩ rfl rfl rfl rfl rfl (by kernel_rfl) Try.func3 (by kernel_rfl)
    (of_decide_eq_true (by kernel_rfl)) (by unfold Func.isWrapper; first | (rw [if_pos (by decide +kernel)]; kernel_rfl) | (rw [if_neg (by decide +kernel)]; exact ⟨rfl, rfl⟩))
    (fun os started H enc _ => seqIds_lifted os started H enc)
#print axioms seqIds_proved
end Go.Proofs.Ytmlikcblfkkpjaa
