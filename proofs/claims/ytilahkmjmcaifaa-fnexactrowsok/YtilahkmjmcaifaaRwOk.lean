/-
  The statement FnExactRowsOkSaid: at every slice of rows the law returns true, and the slice reads afterwards as it read before. No condition.
-/
import Derived.Test.YtilahkmjmcaifaaRwO
namespace Go.Proofs.Ytilahkmjmcaifaa
open Go.ChangeShapes Go.WideShapes Go.ChangeAt Go.RowKit Go.Deep
set_option linter.unusedVariables false

theorem implRows_any (v : Value) (L : List Rw) (w : World) (h : RdR w v L) (hL : L.length ≤ 1048576) :
    Calls Try.prog 9 #[v] w fun e w' => e = .returned (.bool (rowsB L)) ∧ Below w.heap.size w w' := by
  go_enter Try.func9, Try.ntmps9
  go_wp2_with fail
  refine (tallies_any v L w h hL).mono ?_
  rintro e w1 ⟨hr, hB⟩
  rcases hr with ⟨hr, rfl⟩ | ⟨hr, E, rfl, _⟩
  · go_wp2
    go_ret
    exact ⟨ret_bool hr.symm, hB⟩
  · go_wp2
    go_ret
    exact ⟨ret_bool hr.symm, hB⟩

set_option maxHeartbeats 1000000 in
theorem rowsOk_walk (v : Value) (L : List Rw) (w0 : World) (h : RdR w0 v L) :
    Calls Try.prog 3 #[v] w0 fun e w' => e = .returned (.bool true) ∧ Below w0.heap.size w0 w' := by
  go_enter Try.func3, Try.ntmps3
  go_wp2_with fail
  refine (szRows_any v L w0 h _ (by omega) (by omega)).mono ?_
  rintro e w ⟨r, rfl, hr, hB0⟩
  rcases hr with hr | ⟨hr, hr1, hl, hcs⟩
  · go_wp2
    go_ret
    exact ⟨rfl, hB0⟩
  have HB0 : Hid (Below w0.heap.size w0 w) := hB0
  have T : Hid (∀ w', Below w.heap.size w w' → Calls Try.prog 8 #[v] w' fun e w'' => ∃ v', e = .returned v' ∧ OwnR w'' w'.heap.size w''.heap.size v' L ∧ Below w'.heap.size w' w'') := fun w' hB' => toRows_any v L w' ((h.below hB0).below hB') hl hcs
  clear h hB0 hcs
  go_wp2_with fail
  refine (T.out w (Below.refl _ _)).mono ?_
  rintro e w2 ⟨v2, rfl, o2, b2⟩
  go_wp2_with fail
  refine (specRows_any v2 L w2 o2.rd).mono ?_
  rintro e w3 ⟨rfl, hB3⟩
  have b3 := b2.trans (hB3.mono b2.size)
  go_wp2_with fail
  refine (T.out w3 b3).mono ?_
  rintro e w4 ⟨v4, rfl, o4, hB4⟩
  have b4 := b3.trans (hB4.mono b3.size)
  go_wp2_with fail
  refine (implRows_any v4 L w4 o4.rd hl).mono ?_
  rintro e w5 ⟨rfl, hB5⟩
  have b5 := b4.trans (hB5.mono b4.size)
  have o5 := o4.below (Nat.le_refl _) hB5
  generalize rowsB L = x
  have hx : (x != x) = false := by simp
  clear o2 o4 hB3 hB4 hB5
  go_wp2_with fail
  refine (T.out w5 b5).mono ?_
  rintro e w6 ⟨v6, rfl, o6, hB6⟩
  have b6 := b5.trans (hB6.mono b5.size)
  go_wp2_with fail
  refine (eqRows_same v4 v6 L w6 (o5.rd.below hB6) o6.rd).mono ?_
  rintro e w7 ⟨rfl, hB7⟩
  have b7 := b6.trans (hB7.mono b6.size)
  go_wp2
  go_ret
  exact ⟨rfl, HB0.out.trans (b7.mono HB0.out.size)⟩

set_option maxRecDepth 100000 in
theorem rowsOk_lifted (os : Os) (started : os.Started) (H : Type) (enc : TypeId × Value → H) :
    ReturnsInHanded {} Try.checked os 3 .any (Rows.fnExactRowsOkSpec.pre6 enc Try.prog Try.f3 Rows.fnExactRowsOkRow.domain false) (Rows.fnExactRowsOkSpec.post enc Try.prog Try.f3 false true false false) := by
  refine returnsInHanded_of_change (C := Try.checked) own started (by kernel_rfl) Try.func3
    (ChangeSpec.witness6 (enc := enc) (C := Try.checked) false ⟨#[], #[.slice none 0 0], []⟩ 8 (by kernel_rfl) (by kernel_rfl) (by kernel_rfl) (by kernel_rfl)) ?_
  intro W base args ds gs before hval0 hW hcnd _
  have hval : ∀ (j : Nat) t v, Try.f3.params[j]? = some t → args[j]? = some v → Value.okWide Try.prog W .any base t v := hval0
  have hW' := hW
  obtain ⟨p, q, hA0, hV, rfl, hfz, hnd⟩ := hW
  have hA : DataW.TrodAll enc Try.prog W 0 (fun _ => true) true Try.f3.params.toList args.toList ds p := hA0
  rw [Try.params3] at hA hval
  obtain ⟨v0, vs0, d0, ds0, p0, q0, hargs, rfl, rfl, h0, r0⟩ := trodAll_cons hA
  obtain ⟨rfl, rfl, rfl⟩ := trodAll_nil r0
  obtain rfl : args = #[v0] := by cases args; simp_all
  obtain ⟨rfl, rfl⟩ := trodVars_none hV
  obtain ⟨a0, len0, cap0, rfl⟩ := okWide_slice Try.underlying22 (hval 0 22 v0 rfl rfl)
  have k0 := h0
  have lt0 : ∀ x ∈ p0, x.block < W.heap.size := by obtain ⟨m, hm⟩ := k0; exact DataW.trod_lt m _ _ _ hm
  obtain ⟨L, w0⟩ : ∃ L, RdR W (.slice a0 len0 cap0) L := by
    obtain ⟨fuel, hf⟩ := h0
    exact open_rows (by simpa [Value.cells] using hf)
  clear hA0 hval0
  refine (rowsOk_walk _ L W w0).mono fun e W' ⟨he, bel⟩ => ?_
  subst he
  exact ⟨_, rfl, _, _, _, [], _, [], hW', trodAll_mk1 (shut_bool Try.underlying4 _), (trodAll_cons_mk (Below.trod laidOut (by kernel_rfl) (of_decide_eq_true (by kernel_rfl)) k0 bel lt0) trodAll_mk0), rfl, bel.frame _, fun h => by cases h⟩

theorem rowsOk_proved : Rows.FnExactRowsOkSaid :=
  OpenClaim.holds_of_wide 3 Try.f3 rfl rfl rfl rfl rfl rfl rfl ⟨rfl, rfl, rfl, rfl, rfl⟩ rfl rfl rfl rfl rfl (by kernel_rfl) Try.func3 (by kernel_rfl)
    (of_decide_eq_true (by kernel_rfl)) (by unfold Func.isWrapper; first | (rw [if_pos (by decide +kernel)]; kernel_rfl) | (rw [if_neg (by decide +kernel)]; exact ⟨rfl, rfl⟩))
    (fun os started H enc _ => rowsOk_lifted os started H enc)
#print axioms rowsOk_proved
end Go.Proofs.Ytilahkmjmcaifaa
