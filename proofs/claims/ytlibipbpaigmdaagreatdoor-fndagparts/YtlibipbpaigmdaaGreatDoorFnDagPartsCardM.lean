/-
  The card FnDagPartsCardSaid: at every slice of bytes the law returns true, and its arguments and the two tables startWords, roundWords read afterwards as before. Conditions: the row's own (the library's tables that it lists start as they are laid).
-/
import Derived.Test.YtlibipbpaigmdaaGreatDoorDagOpen
import Derived.Test.YtlibipbpaigmdaaGreatDoorDgS
import Derived.Test.YtlibipbpaigmdaaGreatDoorDgG
namespace Go.Proofs.YtlibipbpaigmdaaGreatDoor
open Go.ChangeShapes Go.WideShapes Go.ChangeAt Go.RowKit Go.Deep
set_option linter.unusedVariables false

theorem pow_listedDp : (Rows.fnDagPartsRow.laid.filter fun x => x.1 == "internal/strconv.uint64pow10") = [("internal/strconv.uint64pow10", Rows.laid_internal_strconv_uint64pow10)] := by kernel_rfl
theorem tabs_listedDp : (Rows.fnDagPartsRow.laid.filter fun x => x.1 == "loop.example/g00318/impl.startWords" || x.1 == "loop.example/g00318/impl.roundWords") = [("loop.example/g00318/impl.startWords", Rows.laid_loop_example_g00318_impl_startWords), ("loop.example/g00318/impl.roundWords", Rows.laid_loop_example_g00318_impl_roundWords)] := by kernel_rfl
theorem all_of_laidDp {W : World} (h : laidMetH Tryz.prog Rows.fnDagPartsRow.laid W) : AllT W := by
  have h1 := laidMetH.filter (fun x => x.1 == "internal/strconv.uint64pow10") h
  rw [pow_listedDp] at h1
  have h2 := laidMetH.filter (fun x => x.1 == "loop.example/g00318/impl.startWords" || x.1 == "loop.example/g00318/impl.roundWords") h
  rw [tabs_listedDp] at h2
  exact ⟨tabs_of_laid h2, pow_of_one h1⟩

set_option maxRecDepth 100000 in
theorem contractDp (H : Type) (enc : TypeId × Value → H) (W : World) (base : Nat) (args : Array Value) (ds gs : List (DataW H)) (before : List MemPlace)
    (hval : ∀ (j : Nat) t v, Tryz.f12.params[j]? = some t → args[j]? = some v → Value.okWide Tryz.prog W .any base t v)
    (hW : DataW.Whole enc Tryz.prog Tryz.f12.params.toList Rows.fnDagPartsSpec.vars false W args.toList ds gs before) (hT : AllT W) :
    Calls Tryz.prog 12 args W fun e W' => ∃ v, e = .returned v ∧ Rows.fnDagPartsSpec.post enc Tryz.prog Tryz.f12 false true false false W args v W' := by
  have hW' := hW
  obtain ⟨p, q, hA0, hV0, rfl, hfz, hnd⟩ := hW
  have hA : DataW.TrodAll enc Tryz.prog W 0 (fun _ => true) true Tryz.f12.params.toList args.toList ds p := hA0
  have hV : DataW.TrodVars enc Tryz.prog W (fun _ => true) ["loop.example/g00318/impl.startWords", "loop.example/g00318/impl.roundWords"] gs q := hV0
  rw [Tryz.params12] at hA hval
  obtain ⟨v0, vs0, d0, ds0, p0, q0, hargs, rfl, rfl, h0, r0⟩ := trodAll_cons hA
  obtain ⟨rfl, rfl, rfl⟩ := trodAll_nil r0
  obtain rfl : args = #[v0] := by cases args; simp_all
  obtain ⟨rfl, rfl⟩ := hV.unique (vars_of_tabs enc hT.t _)
  obtain ⟨a0, len0, cap0, rfl⟩ := okWide_slice Tryz.underlying44 (hval 0 44 v0 rfl rfl)
  have k0 := h0
  have lt0 : ∀ x ∈ p0, x.block < W.heap.size := by obtain ⟨m, hm⟩ := k0; exact DataW.trod_lt m _ _ _ hm
  obtain ⟨Z0, hI0⟩ : ∃ Z, IsU8 W a0 len0 cap0 Z := by
    obtain ⟨fuel, hf⟩ := h0
    obtain ⟨a, len, cap, Z, e, hI⟩ := open_u8 (by simpa [Value.cells] using hf)
    simp at e
    obtain ⟨rfl, rfl, rfl⟩ := e
    exact ⟨Z, hI⟩
  clear hA0 hV0
  refine (fnDagParts_walk  W hI0 hT).mono fun e W' ⟨he, bel⟩ => ?_
  subst he
  have hT' := hT.below bel
  exact ⟨_, rfl, _, _, _, [], _, _, hW', trodAll_mk1 (shut_bool Tryz.underlying4 _), (trodAll_cons_mk (Below.trod laidOutN (by kernel_rfl) (of_decide_eq_true (by kernel_rfl)) k0 bel lt0) trodAll_mk0), vars_of_tabs enc hT'.t _, bel.frame _, fun h => by cases h⟩

theorem laid_metDp (os : Os) : laidMet Tryz.prog Rows.fnDagPartsRow.laid ((World.laidAll Tryz.prog os Rows.fnDagPartsRow.laid).forCall (fun _ _ => 0) ⟨#[], #[.slice none 0 0], []⟩).memory :=
  laidMet_laidAll _ (by kernel_rfl) (by kernel_rfl)
theorem readsDp (os : Os) {H : Type} (enc : TypeId × Value → H) : ∃ ds places, DataW.whole enc Tryz.prog ((World.laidAll Tryz.prog os Rows.fnDagPartsRow.laid).forCall (fun _ _ => 0) ⟨#[], #[.slice none 0 0], []⟩).memory Tryz.f12.params.toList Rows.fnDagPartsSpec.vars false #[(.slice none 0 0 : Value)].toList 8 = some (ds, [startH, roundH], places) :=
  ⟨[.nil], MemPlace.row ⟨0, 0, none⟩ 8 ++ MemPlace.row ⟨1, 0, none⟩ 64, by kernel_rfl⟩

set_option maxRecDepth 100000 in
theorem liftedDp (os : Os) (started : os.Started) (H : Type) (enc : TypeId × Value → H) (F : Stop.Interp) :
    ReturnsInHanded {} Tryz.checked os 12 .any ((OpenSpec.ofChange Rows.fnDagPartsSpec).preRow enc Tryz.prog Tryz.f12 Rows.fnDagPartsRow.domain false Rows.fnDagPartsRow.laid) (((OpenSpec.ofChange Rows.fnDagPartsSpec).at F).post enc Tryz.prog Tryz.f12 false true false false) := by
  obtain ⟨dz, places, hx⟩ := readsDp os enc
  refine returnsInHanded_of_row (C := Tryz.checked) (s := OpenSpec.ofChange Rows.fnDagPartsSpec) ownN started (by kernel_rfl) Tryz.func12
    (witness_row_at (enc := enc) (C := Tryz.checked) false (World.laidAll Tryz.prog os Rows.fnDagPartsRow.laid) #[.slice none 0 0] (World.laidAll_os _ _ _) (by kernel_rfl) (by kernel_rfl) (by kernel_rfl)
      (OpenSpec.preRow_of_cond 8 hx (by kernel_rfl) (fun k hk => by cases hk) (by kernel_rfl) (laid_metDp os))) ?_
  intro W base args ds gs before hval hW _ _ _ hL _ _
  exact contractDp H enc W base args ds gs before hval hW (all_of_laidDp hL)

theorem andBDp {a b : Bool} (h : a = true) (k : b = true) : (a && b) = true := by rw [h, k]; rfl
theorem unfDp : (Rows.fnDagPartsRow.unfollowed == Tryz.pinned.checked.prog.unfollowed 12) = true := by kernel_rfl
theorem recDp : (Rows.fnDagPartsRow.recurses == Tryz.pinned.checked.prog.recurses 12) = true := by kernel_rfl
theorem namDp : (Rows.fnDagPartsRow.named == Tryz.pinned.checked.prog.varsNamed 12) = true := by kernel_rfl
theorem inpDp : (Rows.fnDagPartsRow.inPlace == Tryz.pinned.checked.prog.inPlace 12) = true := by kernel_rfl
set_option maxRecDepth 100000 in
set_option maxHeartbeats 8000000 in
theorem closedDp : joinedFacts Tryz.pinned.checked.prog 12 Tryz.f12 (OpenSpec.ofChange Rows.fnDagPartsSpec).bare Rows.fnDagPartsRow = true := by
  unfold joinedFacts
  repeat' with_reducible refine andBDp ?_ ?_
  all_goals (first | with_reducible exact unfDp | with_reducible exact recDp | with_reducible exact namDp | with_reducible exact inpDp | (as_aux_lemma => kernel_rfl))
theorem wrapDp : Tryz.f12.isWrapper Tryz.prog Rows.fnDagPartsRow.wrapper Rows.fnDagPartsRow.mainSum := by unfold Func.isWrapper; first | (rw [if_pos (by decide +kernel)]; kernel_rfl) | (rw [if_neg (by decide +kernel)]; exact ⟨rfl, rfl⟩)
theorem instDp : Tryz.f12.isInstance Tryz.prog Rows.fnDagPartsRow.origin Rows.fnDagPartsRow.targs := of_decide_eq_true (by kernel_rfl)

theorem saidDp : Rows.FnDagPartsSaid :=
  OpenClaim.holds_of_cond 12 Tryz.f12 rfl rfl rfl rfl rfl rfl rfl ⟨rfl, rfl, rfl, rfl, rfl⟩ rfl rfl rfl rfl rfl (by kernel_rfl) Tryz.func12 closedDp
    instDp wrapDp
    (fun os started H enc _ F => by rw [OpenClaim.pre_eq_preRow]; exact liftedDp os started H enc F)

theorem plainDp (f : FuncId) (fn : Func) (hf : Tryz.pinned.checked.prog.funcNamed Rows.fnDagPartsRow.func = some f) (hfn : Tryz.pinned.checked.prog.funcs[f]? = some fn) :
    true = Tryz.pinned.checked.prog.looks [] ∧ ∀ (j : Nat) t, fn.params[j]? = some t → Tryz.pinned.checked.prog.wantsStandIn t = false := by
  obtain rfl : f = 12 := Option.some.inj ((show Tryz.prog.funcNamed Rows.fnDagPartsRow.func = some 12 by kernel_rfl).symm.trans hf) |>.symm
  obtain rfl : fn = Tryz.f12 := (Option.some.inj (Tryz.func12.symm.trans hfn)).symm
  refine ⟨by kernel_rfl, fun j t ht => ?_⟩
  rw [Tryz.params12] at ht
  obtain rfl : t = 44 := by simpa using Array.mem_of_getElem? ht
  exact (show Tryz.prog.wantsStandIn 44 = false by kernel_rfl)

/-- THE CARD -/
theorem cardDp : Rows.FnDagPartsCardSaid :=
  Claim7.holds_tied_plain_at .later [] _ _ _ _ saidDp (fun _ h => by cases h) (by kernel_rfl) (fun _ h => by cases h) fnDagParts_row_tie rfl ⟨rfl, rfl⟩ (by kernel_rfl) rfl plainDp (by kernel_rfl)
#print axioms cardDp
end Go.Proofs.YtlibipbpaigmdaaGreatDoor
