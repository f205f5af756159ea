/-
  The statement FnExactBeatsOkSaid: at every slice of beats the law returns true, and the slice reads afterwards as it read before. No condition.
-/
import Derived.Test.YtaepmojiiiinaaaBtOk
namespace Go.Proofs.Ytaepmojiiiinaaa
open Go.ChangeShapes Go.WideShapes Go.ChangeAt Go.RowKit Go.Deep
set_option linter.unusedVariables false

set_option maxHeartbeats 400000 in
theorem beatsOk_walk (a : Option Addr) (len cap : Nat) (D : Nat → Ev) (w : World) (h : IsEvs w a len cap D) (hF : ∀ i, i < len → (D i).in) :
    Calls Try.prog 3 #[.slice a len cap] w fun e w' => e = .returned (.bool true) ∧ Below w.heap.size w w' := by
  go_enter Try.func3, Try.ntmps3
  go_wp2_with fail
  refine (szEvs_any a len cap D w h hF _ (by omega) (by omega)).mono ?_
  rintro e w1 ⟨r, rfl, hr, hB1⟩
  rcases hr with hr | ⟨hr, hr1, hl, _⟩
  · go_wp2
    go_ret
    exact ⟨rfl, hB1⟩
  go_wp2_with fail
  refine (toEvs_own a len cap D _ (h.below hB1) hl).mono ?_
  rintro e w2 ⟨rfl, h2, hB2⟩
  have b2 : Below w.heap.size w w2 := hB1.trans (hB2.mono hB1.size)
  go_wp2_with fail
  refine (specBeats_any _ _ _ D _ (h2.evs hl) hF).mono ?_
  rintro e w3 ⟨rfl, hB3⟩
  have b3 : Below w.heap.size w w3 := b2.trans (hB3.mono b2.size)
  go_wp2_with fail
  refine (toEvs_own a len cap D _ (h.below b3) hl).mono ?_
  rintro e w4 ⟨rfl, h4, hB4⟩
  have b4 : Below w.heap.size w w4 := b3.trans (hB4.mono b3.size)
  go_wp2_with fail
  refine (implBeats_any _ _ _ D _ (h4.evs hl) hF).mono ?_
  rintro e w5 ⟨rfl, hB5⟩
  have h5 := h4.below hB5
  have b5 : Below w.heap.size w w5 := b4.trans (hB5.mono b4.size)
  generalize beatsB D len = x
  have hx : (x != x) = false := by simp
  go_wp2_with fail
  refine (toEvs_own a len cap D _ (h.below b5) hl).mono ?_
  rintro e w6 ⟨rfl, h6, hB6⟩
  have b6 : Below w.heap.size w w6 := b5.trans (hB6.mono b5.size)
  go_wp2_with fail
  refine (eqEvs_same _ _ _ _ _ D _ ((h5.below hB6).evs hl) (h6.evs hl)).mono ?_
  rintro e w7 ⟨rfl, hB7⟩
  go_wp2
  go_ret
  exact ⟨rfl, b6.trans (hB7.mono b6.size)⟩

set_option maxRecDepth 100000 in
theorem beatsOk_lifted (os : Os) (started : os.Started) (H : Type) (enc : TypeId × Value → H) :
    ReturnsInHanded {} Try.checked os 3 .any (Rows.fnExactBeatsOkSpec.pre6 enc Try.prog Try.f3 Rows.fnExactBeatsOkRow.domain false) (Rows.fnExactBeatsOkSpec.post enc Try.prog Try.f3 false true false false) := by
  refine returnsInHanded_of_change (C := Try.checked) own started (by kernel_rfl) Try.func3
    (ChangeSpec.witness6 (enc := enc) (C := Try.checked) false ⟨#[], #[.slice none 0 0], []⟩ 8 (by kernel_rfl) (by kernel_rfl) (by kernel_rfl) (by kernel_rfl)) ?_
  intro W base args ds gs before hval0 hW hcnd _
  have hval : ∀ (j : Nat) t v, Try.f3.params[j]? = some t → args[j]? = some v → Value.okWide Try.prog W .any base t v := hval0
  have hW' := hW
  obtain ⟨p, q, hA0, hV, rfl, hfz, hnd⟩ := hW
  have hA : DataW.TrodAll enc Try.prog W 0 (fun _ => true) true Try.f3.params.toList args.toList ds p := hA0
  rw [Try.params3] at hA hval
  obtain ⟨v0, vs0, d0, ds0, p0, q0, hargs, rfl, rfl, h0, r0⟩ := trodAll_cons hA
  obtain ⟨rfl, rfl, rfl⟩ := trodAll_nil r0
  obtain rfl : args = #[v0] := by cases args; simp_all
  obtain ⟨rfl, rfl⟩ := trodVars_none hV
  obtain ⟨a0, len0, cap0, rfl⟩ := okWide_slice Try.underlying22 (hval 0 22 v0 rfl rfl)
  have k0 := h0
  have lt0 : ∀ x ∈ p0, x.block < W.heap.size := by obtain ⟨m, hm⟩ := k0; exact DataW.trod_lt m _ _ _ hm
  obtain ⟨D, w0, f0⟩ : ∃ D, IsEvs W a0 len0 cap0 D ∧ ∀ i, i < len0 → (D i).in := by
    obtain ⟨fuel, hf⟩ := h0
    obtain ⟨a, len, cap, D, e, hI, hF⟩ := open_evs (by simpa [Value.cells] using hf)
    simp at e
    obtain ⟨rfl, rfl, rfl⟩ := e
    exact ⟨D, hI, hF⟩
  clear hA0 hval0
  refine (beatsOk_walk a0 len0 cap0 D W w0 f0).mono fun e W' ⟨he, bel⟩ => ?_
  subst he
  exact ⟨_, rfl, _, _, _, [], _, [], hW', trodAll_mk1 (shut_bool Try.underlying4 _), (trodAll_cons_mk (Below.trod laidOut (by kernel_rfl) (of_decide_eq_true (by kernel_rfl)) k0 bel lt0) trodAll_mk0), rfl, bel.frame _, fun h => by cases h⟩

theorem beatsOk_proved : Rows.FnExactBeatsOkSaid :=
  OpenClaim.holds_of_wide 3 Try.f3 rfl rfl rfl rfl rfl rfl rfl ⟨rfl, rfl, rfl, rfl, rfl⟩ rfl rfl rfl rfl rfl (by kernel_rfl) Try.func3 (by kernel_rfl)
    (of_decide_eq_true (by kernel_rfl)) (by unfold Func.isWrapper; first | (rw [if_pos (by decide +kernel)]; kernel_rfl) | (rw [if_neg (by decide +kernel)]; exact ⟨rfl, rfl⟩))
    (fun os started H enc _ => beatsOk_lifted os started H enc)
#print axioms beatsOk_proved
end Go.Proofs.Ytaepmojiiiinaaa
