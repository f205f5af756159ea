/-
  The card FnExactTakeFramesCardSaid: at every text the law returns true; the text and the table read afterwards as before. Conditions: the row's own (the table halfLeft starts as the program's text lays it).
-/
import Derived.Test.YtcknemblniemcaaDoorTkL
import Derived.Test.YtcknemblniemcaaDoorFrOpen
namespace Go.Proofs.YtcknemblniemcaaDoor
open Go.ChangeShapes Go.WideShapes Go.ChangeAt Go.RowKit
set_option linter.unusedVariables false

theorem contractTkCard (H : Type) (enc : TypeId × Value → H) (W : World) (base : Nat) (args : Array Value) (ds gs : List (DataW H)) (before : List MemPlace)
    (hval : ∀ (j : Nat) t v, Tryd.f4.params[j]? = some t → args[j]? = some v → Value.okWide Tryd.prog W .any base t v)
    (hW : DataW.Whole enc Tryd.prog Tryd.f4.params.toList Rows.fnExactTakeFramesSpec.vars false W args.toList ds gs before) (hT : Lib.TabIs Tryd.prog W halfN .u32 halfI) :
    Calls Tryd.prog 4 args W fun e W' => ∃ v, e = .returned v ∧ Rows.fnExactTakeFramesSpec.post enc Tryd.prog Tryd.f4 false true false false W args v W' := by
  have hW' := hW
  obtain ⟨p, q, hA0, hV0, rfl, hfz, hnd⟩ := hW
  have hA : DataW.TrodAll enc Tryd.prog W 0 (fun _ => true) true Tryd.f4.params.toList args.toList ds p := hA0
  have hV : DataW.TrodVars enc Tryd.prog W (fun _ => true) [halfN] gs q := hV0
  rw [Tryd.params4] at hA hval
  obtain ⟨v0, vs0, d0, ds0, p0, q0, hargs, rfl, rfl, h0, r0⟩ := trodAll_cons hA
  obtain ⟨rfl, rfl, rfl⟩ := trodAll_nil r0
  obtain rfl : args = #[v0] := by cases args; simp_all
  obtain ⟨s, rfl, rfl, rfl, ws⟩ := Go.ChangeMaps.open_string Tryd.underlying9 (hval 0 9 v0 rfl rfl) h0
  obtain ⟨rfl, rfl⟩ := hV.unique (vars_of_tab enc hT _)
  clear hA0 hV0
  refine (take_walk s (by unfold maxLen at ws; omega) W (Halves.of_tab hT)).mono fun e W' ⟨he, hB⟩ => ?_
  subst he
  have hT' := tab_below hT hB
  exact ⟨_, rfl, _, _, _, [], [], _, hW', trodAll_mk1 (shut_bool Tryd.underlying4 _), trodAll_cons_mk (Go.ChangeMaps.shut_string Tryd.underlying9 ws) trodAll_mk0, vars_of_tab enc hT' _, hB.frame _, fun h => by cases h⟩

theorem laid_metTkCard (os : Os) : laidMet Tryd.prog Rows.fnExactTakeFramesRow.laid ((World.laidAll Tryd.prog os Rows.fnExactTakeFramesRow.laid).forCall (fun _ _ => 0) ⟨#[], #[.string ⟨#[]⟩], []⟩).memory :=
  laidMet_laidAll _ (by kernel_rfl) (by kernel_rfl)
theorem readsTkCard (os : Os) {H : Type} (enc : TypeId × Value → H) : ∃ places, DataW.whole enc Tryd.prog ((World.laidAll Tryd.prog os Rows.fnExactTakeFramesRow.laid).forCall (fun _ _ => 0) ⟨#[], #[.string ⟨#[]⟩], []⟩).memory Tryd.f4.params.toList Rows.fnExactTakeFramesSpec.vars false #[Value.string ⟨#[]⟩].toList 8 = some ([.lit (.string [])], [halfH], places) :=
  ⟨MemPlace.row ⟨0, 0, none⟩ 16, by kernel_rfl⟩

set_option maxRecDepth 100000 in
theorem liftedTkCard (os : Os) (started : os.Started) (H : Type) (enc : TypeId × Value → H) (F : Stop.Interp) :
    ReturnsInHanded {} Tryd.checked os 4 .any ((OpenSpec.ofChange Rows.fnExactTakeFramesSpec).preRow enc Tryd.prog Tryd.f4 Rows.fnExactTakeFramesRow.domain false Rows.fnExactTakeFramesRow.laid) (((OpenSpec.ofChange Rows.fnExactTakeFramesSpec).at F).post enc Tryd.prog Tryd.f4 false true false false) := by
  obtain ⟨places, hx⟩ := readsTkCard os enc
  refine returnsInHanded_of_row (C := Tryd.checked) (s := OpenSpec.ofChange Rows.fnExactTakeFramesSpec) own started (by kernel_rfl) Tryd.func4
    (witness_row_at (enc := enc) (C := Tryd.checked) false (World.laidAll Tryd.prog os Rows.fnExactTakeFramesRow.laid) #[.string ⟨#[]⟩] (World.laidAll_os _ _ _) (by kernel_rfl) (by kernel_rfl) (by kernel_rfl)
      (OpenSpec.preRow_of_cond 8 hx (by kernel_rfl) (fun k hk => by cases hk) (by kernel_rfl) (laid_metTkCard os))) ?_
  intro W base args ds gs before hval hW _ _ _ hL _ _
  have hL1 : laidMet Tryd.prog [(halfN, Rows.laid_loop_example_g00318_impl_halfLeft)] W := hL
  exact contractTkCard H enc W base args ds gs before hval hW (half_of_laid (l := []) hL1)

theorem saidTkCard : Rows.FnExactTakeFramesSaid :=
  OpenClaim.holds_of_cond 4 Tryd.f4 rfl rfl rfl rfl rfl rfl rfl ⟨rfl, rfl, rfl, rfl, rfl⟩ rfl rfl rfl rfl rfl (by kernel_rfl) Tryd.func4 (by kernel_rfl)
    (of_decide_eq_true (by kernel_rfl)) (by unfold Func.isWrapper; first | (rw [if_pos (by decide +kernel)]; kernel_rfl) | (rw [if_neg (by decide +kernel)]; exact ⟨rfl, rfl⟩))
    (fun os started H enc _ F => by rw [OpenClaim.pre_eq_preRow]; exact liftedTkCard os started H enc F)

theorem plainTkCard (f : FuncId) (fn : Func) (hf : Tryd.pinned.checked.prog.funcNamed Rows.fnExactTakeFramesRow.func = some f) (hfn : Tryd.pinned.checked.prog.funcs[f]? = some fn) :
    false = Tryd.pinned.checked.prog.looks [] ∧ ∀ (j : Nat) t, fn.params[j]? = some t → Tryd.pinned.checked.prog.wantsStandIn t = false := by
  obtain rfl : f = 4 := Option.some.inj ((show Tryd.prog.funcNamed Rows.fnExactTakeFramesRow.func = some 4 by kernel_rfl).symm.trans hf) |>.symm
  obtain rfl : fn = Tryd.f4 := (Option.some.inj (Tryd.func4.symm.trans hfn)).symm
  refine ⟨by kernel_rfl, fun j t ht => ?_⟩
  rw [Tryd.params4] at ht
  obtain rfl : t = 9 := by simpa using Array.mem_of_getElem? ht
  exact (show Tryd.prog.wantsStandIn 9 = false by kernel_rfl)

/-- THE CARD -/
theorem cardTkCard : Rows.FnExactTakeFramesCardSaid :=
  Claim7.holds_tied_plain_at .later [] _ _ _ _ saidTkCard (fun _ h => by cases h) (by kernel_rfl) (fun _ h => by cases h) fnExactTakeFrames_row_tie rfl ⟨rfl, rfl⟩ (by kernel_rfl) rfl plainTkCard (by kernel_rfl)
#print axioms cardTkCard
end Go.Proofs.YtcknemblniemcaaDoor
