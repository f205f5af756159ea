/-
  The card FnHeadsCardSaid: at every slice of bytes the law returns true, and its arguments and the two tables startWords, roundWords read afterwards as before. Conditions: the row's own (the library's tables that it lists start as they are laid).
-/
import Derived.Test.YtlibipbpaigmdaaGreatDoorDagOpen
import Derived.Test.YtlibipbpaigmdaaGreatDoorDgK
import Derived.Test.YtlibipbpaigmdaaGreatDoorDgG
namespace Go.Proofs.YtlibipbpaigmdaaGreatDoor
open Go.ChangeShapes Go.WideShapes Go.ChangeAt Go.RowKit Go.Deep
set_option linter.unusedVariables false

theorem pow_listedHd : (Rows.fnHeadsRow.laid.filter fun x => x.1 == "internal/strconv.uint64pow10") = [("internal/strconv.uint64pow10", Rows.laid_internal_strconv_uint64pow10)] := by kernel_rfl
theorem tabs_listedHd : (Rows.fnHeadsRow.laid.filter fun x => x.1 == "loop.example/g00318/impl.startWords" || x.1 == "loop.example/g00318/impl.roundWords") = [("loop.example/g00318/impl.startWords", Rows.laid_loop_example_g00318_impl_startWords), ("loop.example/g00318/impl.roundWords", Rows.laid_loop_example_g00318_impl_roundWords)] := by kernel_rfl
theorem all_of_laidHd {W : World} (h : laidMetH Tryz.prog Rows.fnHeadsRow.laid W) : AllT W := by
  have h1 := laidMetH.filter (fun x => x.1 == "internal/strconv.uint64pow10") h
  rw [pow_listedHd] at h1
  have h2 := laidMetH.filter (fun x => x.1 == "loop.example/g00318/impl.startWords" || x.1 == "loop.example/g00318/impl.roundWords") h
  rw [tabs_listedHd] at h2
  exact ⟨tabs_of_laid h2, pow_of_one h1⟩

set_option maxRecDepth 100000 in
theorem contractHd (H : Type) (enc : TypeId × Value → H) (W : World) (base : Nat) (args : Array Value) (ds gs : List (DataW H)) (before : List MemPlace)
    (hval : ∀ (j : Nat) t v, Tryz.f9.params[j]? = some t → args[j]? = some v → Value.okWide Tryz.prog W .any base t v)
    (hW : DataW.Whole enc Tryz.prog Tryz.f9.params.toList Rows.fnHeadsSpec.vars false W args.toList ds gs before) (hT : AllT W) :
    Calls Tryz.prog 9 args W fun e W' => ∃ v, e = .returned v ∧ Rows.fnHeadsSpec.post enc Tryz.prog Tryz.f9 false true false false W args v W' := by
  have hW' := hW
  obtain ⟨p, q, hA0, hV0, rfl, hfz, hnd⟩ := hW
  have hA : DataW.TrodAll enc Tryz.prog W 0 (fun _ => true) true Tryz.f9.params.toList args.toList ds p := hA0
  have hV : DataW.TrodVars enc Tryz.prog W (fun _ => true) ["loop.example/g00318/impl.startWords", "loop.example/g00318/impl.roundWords"] gs q := hV0
  rw [Tryz.params9] at hA hval
  obtain ⟨v0, vs0, d0, ds0, p0, q0, hargs, rfl, rfl, h0, r0⟩ := trodAll_cons hA
  obtain ⟨rfl, rfl, rfl⟩ := trodAll_nil r0
  obtain rfl : args = #[v0] := by cases args; simp_all
  obtain ⟨rfl, rfl⟩ := hV.unique (vars_of_tabs enc hT.t _)
  obtain ⟨a0, len0, cap0, rfl⟩ := okWide_slice Tryz.underlying44 (hval 0 44 v0 rfl rfl)
  have k0 := h0
  have lt0 : ∀ x ∈ p0, x.block < W.heap.size := by obtain ⟨m, hm⟩ := k0; exact DataW.trod_lt m _ _ _ hm
  obtain ⟨Z0, hI0⟩ : ∃ Z, IsU8 W a0 len0 cap0 Z := by
    obtain ⟨fuel, hf⟩ := h0
    obtain ⟨a, len, cap, Z, e, hI⟩ := open_u8 (by simpa [Value.cells] using hf)
    simp at e
    obtain ⟨rfl, rfl, rfl⟩ := e
    exact ⟨Z, hI⟩
  clear hA0 hV0
  refine (fnHeads_walk  W hI0 hT).mono fun e W' ⟨he, bel⟩ => ?_
  subst he
  have hT' := hT.below bel
  exact ⟨_, rfl, _, _, _, [], _, _, hW', trodAll_mk1 (shut_bool Tryz.underlying4 _), (trodAll_cons_mk (Below.trod laidOutN (by kernel_rfl) (of_decide_eq_true (by kernel_rfl)) k0 bel lt0) trodAll_mk0), vars_of_tabs enc hT'.t _, bel.frame _, fun h => by cases h⟩

theorem laid_metHd (os : Os) : laidMet Tryz.prog Rows.fnHeadsRow.laid ((World.laidAll Tryz.prog os Rows.fnHeadsRow.laid).forCall (fun _ _ => 0) ⟨#[], #[.slice none 0 0], []⟩).memory :=
  laidMet_laidAll _ (by kernel_rfl) (by kernel_rfl)
theorem readsHd (os : Os) {H : Type} (enc : TypeId × Value → H) : ∃ ds places, DataW.whole enc Tryz.prog ((World.laidAll Tryz.prog os Rows.fnHeadsRow.laid).forCall (fun _ _ => 0) ⟨#[], #[.slice none 0 0], []⟩).memory Tryz.f9.params.toList Rows.fnHeadsSpec.vars false #[(.slice none 0 0 : Value)].toList 8 = some (ds, [startH, roundH], places) :=
  ⟨[.nil], MemPlace.row ⟨0, 0, none⟩ 8 ++ MemPlace.row ⟨1, 0, none⟩ 64, by kernel_rfl⟩

set_option maxRecDepth 100000 in
theorem liftedHd (os : Os) (started : os.Started) (H : Type) (enc : TypeId × Value → H) (F : Stop.Interp) :
    ReturnsInHanded {} Tryz.checked os 9 .any ((OpenSpec.ofChange Rows.fnHeadsSpec).preRow enc Tryz.prog Tryz.f9 Rows.fnHeadsRow.domain false Rows.fnHeadsRow.laid) (((OpenSpec.ofChange Rows.fnHeadsSpec).at F).post enc Tryz.prog Tryz.f9 false true false false) := by
  obtain ⟨dz, places, hx⟩ := readsHd os enc
  refine returnsInHanded_of_row (C := Tryz.checked) (s := OpenSpec.ofChange Rows.fnHeadsSpec) ownN started (by kernel_rfl) Tryz.func9
    (witness_row_at (enc := enc) (C := Tryz.checked) false (World.laidAll Tryz.prog os Rows.fnHeadsRow.laid) #[.slice none 0 0] (World.laidAll_os _ _ _) (by kernel_rfl) (by kernel_rfl) (by kernel_rfl)
      (OpenSpec.preRow_of_cond 8 hx (by kernel_rfl) (fun k hk => by cases hk) (by kernel_rfl) (laid_metHd os))) ?_
  intro W base args ds gs before hval hW _ _ _ hL _ _
  exact contractHd H enc W base args ds gs before hval hW (all_of_laidHd hL)

theorem andBHd {a b : Bool} (h : a = true) (k : b = true) : (a && b) = true := by rw [h, k]; rfl
theorem unfHd : (Rows.fnHeadsRow.unfollowed == Tryz.pinned.checked.prog.unfollowed 9) = true := by kernel_rfl
theorem recHd : (Rows.fnHeadsRow.recurses == Tryz.pinned.checked.prog.recurses 9) = true := by kernel_rfl
theorem namHd : (Rows.fnHeadsRow.named == Tryz.pinned.checked.prog.varsNamed 9) = true := by kernel_rfl
theorem inpHd : (Rows.fnHeadsRow.inPlace == Tryz.pinned.checked.prog.inPlace 9) = true := by kernel_rfl
set_option maxRecDepth 100000 in
set_option maxHeartbeats 8000000 in
theorem closedHd : joinedFacts Tryz.pinned.checked.prog 9 Tryz.f9 (OpenSpec.ofChange Rows.fnHeadsSpec).bare Rows.fnHeadsRow = true := by
  unfold joinedFacts
  repeat' with_reducible refine andBHd ?_ ?_
  all_goals (first | with_reducible exact unfHd | with_reducible exact recHd | with_reducible exact namHd | with_reducible exact inpHd | (as_aux_lemma => kernel_rfl))
theorem wrapHd : Tryz.f9.isWrapper Tryz.prog Rows.fnHeadsRow.wrapper Rows.fnHeadsRow.mainSum := by unfold Func.isWrapper; first | (rw [if_pos (by decide +kernel)]; kernel_rfl) | (rw [if_neg (by decide +kernel)]; exact ⟨rfl, rfl⟩)
theorem instHd : Tryz.f9.isInstance Tryz.prog Rows.fnHeadsRow.origin Rows.fnHeadsRow.targs := of_decide_eq_true (by kernel_rfl)

theorem saidHd : Rows.FnHeadsSaid :=
  OpenClaim.holds_of_cond 9 Tryz.f9 rfl rfl rfl rfl rfl rfl rfl ⟨rfl, rfl, rfl, rfl, rfl⟩ rfl rfl rfl rfl rfl (by kernel_rfl) Tryz.func9 closedHd
    instHd wrapHd
    (fun os started H enc _ F => by rw [OpenClaim.pre_eq_preRow]; exact liftedHd os started H enc F)

theorem plainHd (f : FuncId) (fn : Func) (hf : Tryz.pinned.checked.prog.funcNamed Rows.fnHeadsRow.func = some f) (hfn : Tryz.pinned.checked.prog.funcs[f]? = some fn) :
    true = Tryz.pinned.checked.prog.looks [] ∧ ∀ (j : Nat) t, fn.params[j]? = some t → Tryz.pinned.checked.prog.wantsStandIn t = false := by
  obtain rfl : f = 9 := Option.some.inj ((show Tryz.prog.funcNamed Rows.fnHeadsRow.func = some 9 by kernel_rfl).symm.trans hf) |>.symm
  obtain rfl : fn = Tryz.f9 := (Option.some.inj (Tryz.func9.symm.trans hfn)).symm
  refine ⟨by kernel_rfl, fun j t ht => ?_⟩
  rw [Tryz.params9] at ht
  obtain rfl : t = 44 := by simpa using Array.mem_of_getElem? ht
  exact (show Tryz.prog.wantsStandIn 44 = false by kernel_rfl)

/-- THE CARD -/
theorem cardHd : Rows.FnHeadsCardSaid :=
  Claim7.holds_tied_plain_at .later [] _ _ _ _ saidHd (fun _ h => by cases h) (by kernel_rfl) (fun _ h => by cases h) fnHeads_row_tie rfl ⟨rfl, rfl⟩ (by kernel_rfl) rfl plainHd (by kernel_rfl)
#print axioms cardHd
end Go.Proofs.YtlibipbpaigmdaaGreatDoor
