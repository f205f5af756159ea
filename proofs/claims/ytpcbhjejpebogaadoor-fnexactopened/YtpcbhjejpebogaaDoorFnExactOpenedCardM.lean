/-
  The card FnExactOpenedCardSaid: at every slice of texts the law returns true, and its arguments read afterwards as before. Conditions: the row's own (the library's tables that it lists start as they are laid).
-/
import Derived.Test.YtpcbhjejpebogaaDoorOqOpen
import Derived.Test.YtpcbhjejpebogaaDoorTgS
namespace Go.Proofs.YtpcbhjejpebogaaDoor
open Go.ChangeShapes Go.WideShapes Go.ChangeAt Go.RowKit Go.Deep
set_option linter.unusedVariables false

theorem pow_listedopn : (Rows.fnExactOpenedRow.laid.filter fun x => x.1 == "internal/strconv.uint64pow10") = [("internal/strconv.uint64pow10", Rows.laid_internal_strconv_uint64pow10)] := by kernel_rfl
theorem all_of_laidopn {W : World} (h : laidMetH Tryd.prog Rows.fnExactOpenedRow.laid W) : Pow W := by
  have h1 := laidMetH.filter (fun x => x.1 == "internal/strconv.uint64pow10") h
  rw [pow_listedopn] at h1
  exact pow_of_one h1

set_option maxRecDepth 100000 in
theorem contractopn (H : Type) (enc : TypeId × Value → H) (W : World) (base : Nat) (args : Array Value) (ds gs : List (DataW H)) (before : List MemPlace)
    (hval : ∀ (j : Nat) t v, Tryd.f3.params[j]? = some t → args[j]? = some v → Value.okWide Tryd.prog W .any base t v)
    (hW : DataW.Whole enc Tryd.prog Tryd.f3.params.toList Rows.fnExactOpenedSpec.vars false W args.toList ds gs before) (hT : Pow W) :
    Calls Tryd.prog 3 args W fun e W' => ∃ v, e = .returned v ∧ Rows.fnExactOpenedSpec.post enc Tryd.prog Tryd.f3 false true false false W args v W' := by
  have hW' := hW
  obtain ⟨p, q, hA0, hV0, rfl, hfz, hnd⟩ := hW
  have hA : DataW.TrodAll enc Tryd.prog W 0 (fun _ => true) true Tryd.f3.params.toList args.toList ds p := hA0
  rw [Tryd.params3] at hA hval
  obtain ⟨v0, vs0, d0, ds0, p0, q0, hargs, rfl, rfl, h0, r0⟩ := trodAll_cons hA
  obtain ⟨rfl, rfl, rfl⟩ := trodAll_nil r0
  obtain rfl : args = #[v0] := by cases args; simp_all
  obtain ⟨rfl, rfl⟩ := trodVars_none hV0
  obtain ⟨a0, len0, cap0, rfl⟩ := okWide_slice Tryd.underlying22 (hval 0 22 v0 rfl rfl)
  have k0 := h0
  have lt0 : ∀ x ∈ p0, x.block < W.heap.size := by obtain ⟨m, hm⟩ := k0; exact DataW.trod_lt m _ _ _ hm
  obtain ⟨a0', n0, c0, D0, hv0, hI0, hF0⟩ : ∃ u m uc S, Value.slice a0 len0 cap0 = .slice u m uc ∧ IsStrs W u m uc S ∧ ∀ i, i < m → (S i).size ≤ 9223372036854775807 := by
    obtain ⟨fuel, hf⟩ := h0
    exact open_strs (by simpa [Value.cells] using hf)
  rw [hv0]
  clear hA0
  refine (opened_walk a0' n0 c0 D0 W hI0 hF0 hT).mono fun e W' ⟨he, bel⟩ => ?_
  rw [← hv0]
  subst he
  exact ⟨_, rfl, _, _, _, [], _, [], hW', trodAll_mk1 (shut_bool Tryd.underlying4 _), (trodAll_cons_mk (Below.trod laidOutN (by kernel_rfl) (of_decide_eq_true (by kernel_rfl)) k0 bel lt0) trodAll_mk0), rfl, bel.frame _, fun h => by cases h⟩

theorem laid_metopn (os : Os) : laidMet Tryd.prog Rows.fnExactOpenedRow.laid ((World.laidAll Tryd.prog os Rows.fnExactOpenedRow.laid).forCall (fun _ _ => 0) ⟨#[], #[.slice none 0 0], []⟩).memory :=
  laidMet_laidAll _ (by kernel_rfl) (by kernel_rfl)
theorem readsopn (os : Os) {H : Type} (enc : TypeId × Value → H) : ∃ ds places, DataW.whole enc Tryd.prog ((World.laidAll Tryd.prog os Rows.fnExactOpenedRow.laid).forCall (fun _ _ => 0) ⟨#[], #[.slice none 0 0], []⟩).memory Tryd.f3.params.toList Rows.fnExactOpenedSpec.vars false #[(.slice none 0 0 : Value)].toList 8 = some (ds, [], places) :=
  ⟨[.nil], [], by kernel_rfl⟩

set_option maxRecDepth 100000 in
theorem liftedopn (os : Os) (started : os.Started) (H : Type) (enc : TypeId × Value → H) (F : Stop.Interp) :
    ReturnsInHanded {} Tryd.checked os 3 .any ((OpenSpec.ofChange Rows.fnExactOpenedSpec).preRow enc Tryd.prog Tryd.f3 Rows.fnExactOpenedRow.domain false Rows.fnExactOpenedRow.laid) (((OpenSpec.ofChange Rows.fnExactOpenedSpec).at F).post enc Tryd.prog Tryd.f3 false true false false) := by
  obtain ⟨dz, places, hx⟩ := readsopn os enc
  refine returnsInHanded_of_row (C := Tryd.checked) (s := OpenSpec.ofChange Rows.fnExactOpenedSpec) ownN started (by kernel_rfl) Tryd.func3
    (witness_row_at (enc := enc) (C := Tryd.checked) false (World.laidAll Tryd.prog os Rows.fnExactOpenedRow.laid) #[.slice none 0 0] (World.laidAll_os _ _ _) (by kernel_rfl) (by kernel_rfl) (by kernel_rfl)
      (OpenSpec.preRow_of_cond 8 hx (by kernel_rfl) (fun k hk => by cases hk) (by kernel_rfl) (laid_metopn os))) ?_
  intro W base args ds gs before hval hW _ _ _ hL _ _
  exact contractopn H enc W base args ds gs before hval hW (all_of_laidopn hL)

theorem andBopn {a b : Bool} (h : a = true) (k : b = true) : (a && b) = true := by rw [h, k]; rfl
theorem unfopn : (Rows.fnExactOpenedRow.unfollowed == Tryd.pinned.checked.prog.unfollowed 3) = true := by kernel_rfl
theorem recopn : (Rows.fnExactOpenedRow.recurses == Tryd.pinned.checked.prog.recurses 3) = true := by kernel_rfl
theorem namopn : (Rows.fnExactOpenedRow.named == Tryd.pinned.checked.prog.varsNamed 3) = true := by kernel_rfl
theorem inpopn : (Rows.fnExactOpenedRow.inPlace == Tryd.pinned.checked.prog.inPlace 3) = true := by kernel_rfl
set_option maxRecDepth 100000 in
set_option maxHeartbeats 8000000 in
theorem closedopn : joinedFacts Tryd.pinned.checked.prog 3 Tryd.f3 (OpenSpec.ofChange Rows.fnExactOpenedSpec).bare Rows.fnExactOpenedRow = true := by
  unfold joinedFacts
  repeat' with_reducible refine andBopn ?_ ?_
  all_goals (first | with_reducible exact unfopn | with_reducible exact recopn | with_reducible exact namopn | with_reducible exact inpopn | (as_aux_lemma => kernel_rfl))
theorem wrapopn : Tryd.f3.isWrapper Tryd.prog Rows.fnExactOpenedRow.wrapper Rows.fnExactOpenedRow.mainSum := by unfold Func.isWrapper; first | (rw [if_pos (by decide +kernel)]; kernel_rfl) | (rw [if_neg (by decide +kernel)]; exact ⟨rfl, rfl⟩)
theorem instopn : Tryd.f3.isInstance Tryd.prog Rows.fnExactOpenedRow.origin Rows.fnExactOpenedRow.targs := of_decide_eq_true (by kernel_rfl)

theorem saidopn : Rows.FnExactOpenedSaid :=
  OpenClaim.holds_of_cond 3 Tryd.f3 rfl rfl rfl rfl rfl rfl rfl ⟨rfl, rfl, rfl, rfl, rfl⟩ rfl rfl rfl rfl rfl (by kernel_rfl) Tryd.func3 closedopn
    instopn wrapopn
    (fun os started H enc _ F => by rw [OpenClaim.pre_eq_preRow]; exact liftedopn os started H enc F)

theorem plainopn (f : FuncId) (fn : Func) (hf : Tryd.pinned.checked.prog.funcNamed Rows.fnExactOpenedRow.func = some f) (hfn : Tryd.pinned.checked.prog.funcs[f]? = some fn) :
    true = Tryd.pinned.checked.prog.looks [] ∧ ∀ (j : Nat) t, fn.params[j]? = some t → Tryd.pinned.checked.prog.wantsStandIn t = false := by
  obtain rfl : f = 3 := Option.some.inj ((show Tryd.prog.funcNamed Rows.fnExactOpenedRow.func = some 3 by kernel_rfl).symm.trans hf) |>.symm
  obtain rfl : fn = Tryd.f3 := (Option.some.inj (Tryd.func3.symm.trans hfn)).symm
  refine ⟨by kernel_rfl, fun j t ht => ?_⟩
  rw [Tryd.params3] at ht
  obtain rfl : t = 22 := by simpa using Array.mem_of_getElem? ht
  exact (show Tryd.prog.wantsStandIn 22 = false by kernel_rfl)

/-- THE CARD -/
theorem cardopn : Rows.FnExactOpenedCardSaid :=
  Claim7.holds_tied_plain_at .later [] _ _ _ _ saidopn (fun _ h => by cases h) (by kernel_rfl) (fun _ h => by cases h) fnExactOpened_row_tie rfl ⟨rfl, rfl⟩ (by kernel_rfl) rfl plainopn (by kernel_rfl)
#print axioms cardopn
end Go.Proofs.YtpcbhjejpebogaaDoor
