/-
  The statement FnExactSeqTextSaid: at every argument the law returns true, and the argument reads afterwards as it read before. No condition.
-/
import Derived.Test.YtmlikcblfkkpjaaSqTy
import Derived.Test.YtmlikcblfkkpjaaEMark
import Derived.Test.YtmlikcblfkkpjaaEVal2
namespace Go.Proofs.Ytmlikcblfkkpjaa
open Go.ChangeShapes Go.WideShapes Go.ChangeAt Go.RowKit Go.Deep
set_option linter.unusedVariables false

set_option maxRecDepth 10000 in
set_option maxHeartbeats 4000000 in
theorem seqText_walk (a : Option Addr) (len cap : Nat) (D : Nat → Ev) (w0 : World) (h : IsEvs w0 a len cap D) (hF : ∀ i, i < len → (D i).in)  :
    Calls Try.prog 4 #[.slice a len cap] w0 fun e w' => e = .returned (.bool true) ∧ Below w0.heap.size w0 w' := by
  go_enter Try.func4, Try.ntmps4
  go_wp2_with fail
  refine (szOps_any a len cap D w0 h hF _ (by omega) (by omega)).mono ?_
  rintro e w ⟨r, rfl, hr, hB0⟩
  rcases hr with hr | ⟨hr, hr1, hl, _⟩
  · go_wp2
    go_ret
    exact ⟨rfl, hB0⟩
  have HB0 : Hid (Below w0.heap.size w0 w) := hB0
  have h1 := h.below hB0
  clear hB0
  have T : Hid (∀ w', Below w.heap.size w w' → Calls Try.prog 11 #[.slice a len cap] w' fun e w'' => e = .returned (.slice (some ⟨w'.heap.size, 0, none⟩) len len) ∧ EOwn w'' w'.heap.size w'.heap.size len D ∧ Below w'.heap.size w' w'') := fun w' hB' => toEvs_own a len cap D w' (h1.below hB') hl
  obtain ⟨R, hR⟩ : ∃ R, R = textR D len := ⟨_, rfl⟩
  have S : Hid (∀ w' g base, EOwn w' base g len D → Calls Try.prog 18 #[.slice (some ⟨g, 0, none⟩) len len] w' fun e w'' => e = .returned (.string R) ∧ Below w'.heap.size w' w'') := fun w' g base q => by rw [hR]; exact specText_any _ _ _ D w' (q.evs hl) (fun i hi => (hF i hi).1)
  have I : Hid (∀ w' g base, EOwn w' base g len D → Calls Try.prog 19 #[.slice (some ⟨g, 0, none⟩) len len] w' fun e w'' => e = .returned (.string R) ∧ Below w'.heap.size w' w'') := fun w' g base q => by rw [hR]; exact implText_any _ _ _ D w' (q.evs hl) hF
  clear hR h h1 hF
  go_wp2_with fail
  refine (T.out w (Below.refl _ _)).mono ?_
  rintro e w2 ⟨rfl, o2, b2⟩
  go_wp2_with fail
  refine (S.out w2 _ _ o2).mono ?_
  rintro e w4 ⟨rfl, hB4⟩
  have b4 : Below w.heap.size w w4 := b2.trans (hB4.mono b2.size)
  clear o2 hB4 b2
  go_wp2_with fail
  refine (T.out w4 b4).mono ?_
  rintro e w5 ⟨rfl, o5, hB5⟩
  have b5 : Below w.heap.size w w5 := b4.trans (hB5.mono b4.size)
  go_wp2_with fail
  refine (I.out w5 _ _ o5).mono ?_
  rintro e w7 ⟨rfl, hB7⟩
  have b8 : Below w.heap.size w w7 := b5.trans (hB7.mono b5.size)
  have p8 := o5.below hB7
  have hne : (R.toList != R.toList) = false := by simp
  clear o5 hB5 hB7 b4 b5
  go_wp2_with fail
  refine (T.out w7 b8).mono ?_
  rintro e w9 ⟨rfl, x9, hB9⟩
  go_wp2_with fail
  refine (eqEvs_same _ _ _ _ _ D _ ((p8.below hB9).evs hl) (x9.evs hl)).mono ?_
  rintro e w10 ⟨rfl, hB10⟩
  have hB810 : Below w7.heap.size w7 w10 := hB9.trans (hB10.mono hB9.size)
  have b12 : Below w.heap.size w w10 := b8.trans (hB810.mono b8.size)
  clear hB9 hB10 hB810 x9 b8 p8
  go_wp2
  go_ret
  exact ⟨rfl, HB0.out.trans (b12.mono HB0.out.size)⟩

set_option maxRecDepth 100000 in
theorem seqText_lifted (os : Os) (started : os.Started) (H : Type) (enc : TypeId × Value → H) :
    ReturnsInHanded {} Try.checked os 4 .any (Rows.fnExactSeqTextSpec.pre6 enc Try.prog Try.f4 Rows.fnExactSeqTextRow.domain false) (Rows.fnExactSeqTextSpec.post enc Try.prog Try.f4 false true false false) := by
  refine returnsInHanded_of_change (C := Try.checked) own started (by kernel_rfl) Try.func4
    (ChangeSpec.witness6 (enc := enc) (C := Try.checked) false ⟨#[], #[.slice none 0 0], []⟩ 8 (by kernel_rfl) (by kernel_rfl) (by kernel_rfl) (by kernel_rfl)) ?_
  intro W base args ds gs before hval0 hW hcnd _
  have hval : ∀ (j : Nat) t v, Try.f4.params[j]? = some t → args[j]? = some v → Value.okWide Try.prog W .any base t v := hval0
  have hW' := hW
  obtain ⟨p, q, hA0, hV, rfl, hfz, hnd⟩ := hW
  have hA : DataW.TrodAll enc Try.prog W 0 (fun _ => true) true Try.f4.params.toList args.toList ds p := hA0
  rw [Try.params4] at hA hval
  obtain ⟨v0, vs0, d0, ds0, p0, q0, hargs, rfl, rfl, h0, r0⟩ := trodAll_cons hA
  obtain ⟨rfl, rfl, rfl⟩ := trodAll_nil r0
  obtain rfl : args = #[v0] := by cases args; simp_all
  obtain ⟨rfl, rfl⟩ := trodVars_none hV
  obtain ⟨a0, len0, cap0, rfl⟩ := okWide_slice Try.underlying22 (hval 0 22 v0 rfl rfl)
  have k0 := h0
  have lt0 : ∀ x ∈ p0, x.block < W.heap.size := by obtain ⟨m, hm⟩ := k0; exact DataW.trod_lt m _ _ _ hm
  obtain ⟨D, w0, f0⟩ : ∃ D, IsEvs W a0 len0 cap0 D ∧ ∀ i, i < len0 → (D i).in := by
    obtain ⟨fuel, hf⟩ := h0
    obtain ⟨a, len, cap, D, e, hI, hF⟩ := open_evs (by simpa [Value.cells] using hf)
    simp at e
    obtain ⟨rfl, rfl, rfl⟩ := e
    exact ⟨D, hI, hF⟩
  clear hA0 hval0
  refine (seqText_walk a0 len0 cap0 D W w0 f0).mono fun e W' ⟨he, bel⟩ => ?_
  subst he
  exact ⟨_, rfl, _, _, _, [], _, [], hW', trodAll_mk1 (shut_bool Try.underlying4 _), (trodAll_cons_mk (Below.trod laidOut (by kernel_rfl) (of_decide_eq_true (by kernel_rfl)) k0 bel lt0) trodAll_mk0), rfl, bel.frame _, fun h => by cases h⟩

theorem seqText_proved : Rows.FnExactSeqTextSaid :=
  OpenClaim.holds_of_wide 4 Try.f4 rfl rfl rfl rfl rfl rfl rfl ⟨rfl, rfl, rfl, rfl, rfl⟩ rfl rfl rfl rfl rfl (by kernel_rfl) Try.func4 (by kernel_rfl)
    (of_decide_eq_true (by kernel_rfl)) (by unfold Func.isWrapper; first | (rw [if_pos (by decide +kernel)]; kernel_rfl) | (rw [if_neg (by decide +kernel)]; exact ⟨rfl, rfl⟩))
    (fun os started H enc _ => seqText_lifted os started H enc)
#print axioms seqText_proved
end Go.Proofs.Ytmlikcblfkkpjaa
