/-
  The statement FnExactReplaceSaid: at every disk, name and data the law returns true, and all read afterwards as they read before. No condition.
-/
import Derived.Test.YtmcojfmkmibjpaaGreatDkQb
import Derived.Test.YtmcojfmkmibjpaaGreatDkOp
namespace Go.Proofs.YtmcojfmkmibjpaaGreat
open Go.ChangeShapes Go.WideShapes Go.ChangeAt Go.RowKit Go.Deep
set_option linter.unusedVariables false

set_option maxRecDepth 100000 in
theorem replace_lifted (os : Os) (started : os.Started) (H : Type) (enc : TypeId × Value → H) :
    ReturnsInHanded {} Tryz.checked os 3 .any (Rows.fnExactReplaceSpec.pre6 enc Tryz.prog Tryz.f3 Rows.fnExactReplaceRow.domain false) (Rows.fnExactReplaceSpec.post enc Tryz.prog Tryz.f3 false true false false) := by
  refine returnsInHanded_of_change (C := Tryz.checked) own started (by kernel_rfl) Tryz.func3
    (ChangeSpec.witness6 (enc := enc) (C := Tryz.checked) false ⟨#[], #[.agg #[.slice none 0 0, .slice none 0 0, .slice none 0 0], .string ⟨#[]⟩, .string ⟨#[]⟩], []⟩ 8 (by kernel_rfl) (by kernel_rfl) (by kernel_rfl) (by kernel_rfl)) ?_
  intro W base args ds gs before hval0 hW hcnd _
  have hval : ∀ (j : Nat) t v, Tryz.f3.params[j]? = some t → args[j]? = some v → Value.okWide Tryz.prog W .any base t v := hval0
  have hW' := hW
  obtain ⟨p, q, hA0, hV, rfl, hfz, hnd⟩ := hW
  have hA : DataW.TrodAll enc Tryz.prog W 0 (fun _ => true) true Tryz.f3.params.toList args.toList ds p := hA0
  rw [Tryz.params3] at hA hval
  obtain ⟨v0, vs0, d0, ds0, p0, q0, hargs, rfl, rfl, h0, r0⟩ := trodAll_cons hA
  obtain ⟨v1, vs1, d1, ds1, p1, q1, rfl, rfl, rfl, h1, r1⟩ := trodAll_cons r0
  obtain ⟨v2, vs2, d2, ds2, p2, q2, rfl, rfl, rfl, h2, r2⟩ := trodAll_cons r1
  obtain ⟨rfl, rfl, rfl⟩ := trodAll_nil r2
  obtain rfl : args = #[v0, v1, v2] := by cases args; simp_all
  obtain ⟨rfl, rfl⟩ := trodVars_none hV
  obtain ⟨cs1, rfl, _⟩ := okWide_struct Tryz.underlying25 (hval 0 25 v0 rfl rfl)
  have k0 := h0
  have k1 := h1
  have k2 := h2
  obtain ⟨s, rfl, rfl, rfl, ws⟩ := Go.ChangeMaps.open_string Tryz.underlying9 (hval 1 9 v1 rfl rfl) h1
  have hs : s.size ≤ 9223372036854775807 := by
    obtain ⟨fuel, hf⟩ := k1
    obtain ⟨z, q, _, hz⟩ := DataW.trod_string Tryz.underlying9 hf
    simp [Value.cells] at q
    subst q
    exact Nat.le_trans hz (by decide)
  obtain ⟨t, rfl, rfl, rfl, wt⟩ := Go.ChangeMaps.open_string Tryz.underlying9 (hval 2 9 v2 rfl rfl) h2
  have ht : t.size ≤ 9223372036854775807 := by
    obtain ⟨fuel, hf⟩ := k2
    obtain ⟨z, q, _, hz⟩ := DataW.trod_string Tryz.underlying9 hf
    simp [Value.cells] at q
    subst q
    exact Nat.le_trans hz (by decide)
  have lt0 : ∀ x ∈ p0, x.block < W.heap.size := by obtain ⟨m, hm⟩ := k0; exact DataW.trod_lt m _ _ _ hm
  obtain ⟨vL, vS, vO, L, S, O, hy, hL, hS, hO, hin⟩ : ∃ vL vS vO L S O, cs1 = #[vL, vS, vO] ∧ RdF W vL L ∧ RdF W vS S ∧ RdO W vO O ∧ InD L S O := by
    obtain ⟨fuel, hf⟩ := h0
    exact openDisk (by simpa [Value.cells] using hf)
  subst hy
  clear hA0 hval0
  refine (replace_walk vL vS vO L S O s t W hL hS hO hin hs ht).mono fun e W' ⟨he, bel⟩ => ?_
  subst he
  exact ⟨_, rfl, _, _, _, [], _, [], hW', trodAll_mk1 (shut_bool Tryz.underlying4 _), (trodAll_cons_mk (Below.trod laidOut (by kernel_rfl) (of_decide_eq_true (by kernel_rfl)) k0 bel lt0) (trodAll_cons_mk (Go.ChangeMaps.shut_string Tryz.underlying9 ws) (trodAll_cons_mk (Go.ChangeMaps.shut_string Tryz.underlying9 wt) trodAll_mk0))), rfl, bel.frame _, fun h => by cases h⟩

theorem replace_proved : Rows.FnExactReplaceSaid :=
  OpenClaim.holds_of_wide 3 Tryz.f3 rfl rfl rfl rfl rfl rfl rfl ⟨rfl, rfl, rfl, rfl, rfl⟩ rfl rfl rfl rfl rfl (by kernel_rfl) Tryz.func3 (by kernel_rfl)
    (of_decide_eq_true (by kernel_rfl)) (by unfold Func.isWrapper; first | (rw [if_pos (by decide +kernel)]; kernel_rfl) | (rw [if_neg (by decide +kernel)]; exact ⟨rfl, rfl⟩))
    (fun os started H enc _ => replace_lifted os started H enc)
#print axioms replace_proved
end Go.Proofs.YtmcojfmkmibjpaaGreat
