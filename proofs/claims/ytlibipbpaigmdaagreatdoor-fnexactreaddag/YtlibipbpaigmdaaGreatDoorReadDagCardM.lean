/-
  The card FnExactReadDagCardSaid: at every text the law returns true, and its arguments and the two tables startWords, roundWords read afterwards as before. Conditions: the row's own (the library's tables that it lists start as they are laid).
-/
import Derived.Test.YtlibipbpaigmdaaGreatDoorDagOpen
import Derived.Test.YtlibipbpaigmdaaGreatDoorDgR
import Derived.Shelf.Vars
namespace Go.Proofs.YtlibipbpaigmdaaGreatDoor
open Go.ChangeShapes Go.WideShapes Go.ChangeAt Go.RowKit Go.Deep
set_option linter.unusedVariables false

theorem pow_listedrdg : (Rows.fnExactReadDagRow.laid.filter fun x => x.1 == "internal/strconv.uint64pow10") = [("internal/strconv.uint64pow10", Rows.laid_internal_strconv_uint64pow10)] := by kernel_rfl
theorem tabs_listedrdg : (Rows.fnExactReadDagRow.laid.filter fun x => x.1 == "loop.example/g00318/impl.startWords" || x.1 == "loop.example/g00318/impl.roundWords") = [("loop.example/g00318/impl.startWords", Rows.laid_loop_example_g00318_impl_startWords), ("loop.example/g00318/impl.roundWords", Rows.laid_loop_example_g00318_impl_roundWords)] := by kernel_rfl
theorem all_of_laidrdg {W : World} (h : laidMetH Tryz.prog Rows.fnExactReadDagRow.laid W) : AllT W := by
  have h1 := laidMetH.filter (fun x => x.1 == "internal/strconv.uint64pow10") h
  rw [pow_listedrdg] at h1
  have h2 := laidMetH.filter (fun x => x.1 == "loop.example/g00318/impl.startWords" || x.1 == "loop.example/g00318/impl.roundWords") h
  rw [tabs_listedrdg] at h2
  exact ⟨tabs_of_laid h2, pow_of_one h1⟩

theorem maxLen_shapedrdg {W : World} (h : W.ShapedOpen Tryz.prog) : ∃ m, W.cell? ⟨3, 0, none⟩ = some (.int .i64 m) :=
  cell_of_shapedOpen_int (t := 3) (zero := #[.int .i64 0]) h (of_decide_eq_true (by kernel_rfl)) (by kernel_rfl) rfl (by kernel_rfl) (by kernel_rfl) Tryz.underlying3

set_option maxRecDepth 100000 in
theorem contractrdg (H : Type) (enc : TypeId × Value → H) (W : World) (base : Nat) (args : Array Value) (ds gs : List (DataW H)) (before : List MemPlace)
    (hval : ∀ (j : Nat) t v, Tryz.f5.params[j]? = some t → args[j]? = some v → Value.okWide Tryz.prog W .any base t v)
    (hW : DataW.Whole enc Tryz.prog Tryz.f5.params.toList Rows.fnExactReadDagSpec.vars false W args.toList ds gs before) (hT : AllT W) (m : Int) (hm : W.cell? ⟨3, 0, none⟩ = some (.int .i64 m)) :
    Calls Tryz.prog 5 args W fun e W' => ∃ v, e = .returned v ∧ Rows.fnExactReadDagSpec.post enc Tryz.prog Tryz.f5 false true false false W args v W' := by
  have hW' := hW
  obtain ⟨p, q, hA0, hV0, rfl, hfz, hnd⟩ := hW
  have hA : DataW.TrodAll enc Tryz.prog W 0 (fun _ => true) true Tryz.f5.params.toList args.toList ds p := hA0
  have hV : DataW.TrodVars enc Tryz.prog W (fun _ => true) ["loop.example/g00318/impl.startWords", "loop.example/g00318/impl.roundWords"] gs q := hV0
  rw [Tryz.params5] at hA hval
  obtain ⟨v0, vs0, d0, ds0, p0, q0, hargs, rfl, rfl, h0, r0⟩ := trodAll_cons hA
  obtain ⟨rfl, rfl, rfl⟩ := trodAll_nil r0
  obtain rfl : args = #[v0] := by cases args; simp_all
  obtain ⟨rfl, rfl⟩ := hV.unique (vars_of_tabs enc hT.t _)
  obtain ⟨s0, rfl, rfl, rfl, ws0⟩ := Go.ChangeMaps.open_string Tryz.underlying9 (hval 0 9 v0 rfl rfl) h0
  clear hA0 hV0
  refine (lawRd_walk s0 W m (by unfold maxLen at ws0; omega) hT hm).mono fun e W' ⟨he, bel⟩ => ?_
  subst he
  have hT' := hT.below bel
  exact ⟨_, rfl, _, _, _, [], _, _, hW', trodAll_mk1 (shut_bool Tryz.underlying4 _), (trodAll_cons_mk (Go.ChangeMaps.shut_string Tryz.underlying9 ws0) trodAll_mk0), vars_of_tabs enc hT'.t _, bel.frame _, fun h => by cases h⟩

theorem laid_metrdg (os : Os) : laidMet Tryz.prog Rows.fnExactReadDagRow.laid ((World.laidAll Tryz.prog os Rows.fnExactReadDagRow.laid).forCall (fun _ _ => 0) ⟨#[], #[.string ⟨#[]⟩], []⟩).memory :=
  laidMet_laidAll _ (by kernel_rfl) (by kernel_rfl)
theorem readsrdg (os : Os) {H : Type} (enc : TypeId × Value → H) : ∃ ds places, DataW.whole enc Tryz.prog ((World.laidAll Tryz.prog os Rows.fnExactReadDagRow.laid).forCall (fun _ _ => 0) ⟨#[], #[.string ⟨#[]⟩], []⟩).memory Tryz.f5.params.toList Rows.fnExactReadDagSpec.vars false #[(.string ⟨#[]⟩ : Value)].toList 8 = some (ds, [startH, roundH], places) :=
  ⟨[.lit (.string [])], MemPlace.row ⟨0, 0, none⟩ 8 ++ MemPlace.row ⟨1, 0, none⟩ 64, by kernel_rfl⟩

set_option maxRecDepth 100000 in
theorem liftedrdg (os : Os) (started : os.Started) (H : Type) (enc : TypeId × Value → H) (F : Stop.Interp) :
    ReturnsInHanded {} Tryz.checked os 5 .any ((OpenSpec.ofChange Rows.fnExactReadDagSpec).preRow enc Tryz.prog Tryz.f5 Rows.fnExactReadDagRow.domain false Rows.fnExactReadDagRow.laid) (((OpenSpec.ofChange Rows.fnExactReadDagSpec).at F).post enc Tryz.prog Tryz.f5 false true false false) := by
  obtain ⟨dz, places, hx⟩ := readsrdg os enc
  refine returnsInHanded_of_row (C := Tryz.checked) (s := OpenSpec.ofChange Rows.fnExactReadDagSpec) ownN started (by kernel_rfl) Tryz.func5
    (witness_row_at (enc := enc) (C := Tryz.checked) false (World.laidAll Tryz.prog os Rows.fnExactReadDagRow.laid) #[.string ⟨#[]⟩] (World.laidAll_os _ _ _) (by kernel_rfl) (by kernel_rfl) (by kernel_rfl)
      (OpenSpec.preRow_of_cond 8 hx (by kernel_rfl) (fun k hk => by cases hk) (by kernel_rfl) (laid_metrdg os))) ?_
  intro W base args ds gs before hval hW _ _ _ hL hsh _
  obtain ⟨m, hm⟩ := maxLen_shapedrdg hsh
  exact contractrdg H enc W base args ds gs before hval hW (all_of_laidrdg hL) m hm

theorem andBrdg {a b : Bool} (h : a = true) (k : b = true) : (a && b) = true := by rw [h, k]; rfl
theorem unfrdg : (Rows.fnExactReadDagRow.unfollowed == Tryz.pinned.checked.prog.unfollowed 5) = true := by kernel_rfl
theorem recrdg : (Rows.fnExactReadDagRow.recurses == Tryz.pinned.checked.prog.recurses 5) = true := by kernel_rfl
theorem namrdg : (Rows.fnExactReadDagRow.named == Tryz.pinned.checked.prog.varsNamed 5) = true := by kernel_rfl
theorem inprdg : (Rows.fnExactReadDagRow.inPlace == Tryz.pinned.checked.prog.inPlace 5) = true := by kernel_rfl
set_option maxRecDepth 100000 in
set_option maxHeartbeats 8000000 in
theorem closedrdg : joinedFacts Tryz.pinned.checked.prog 5 Tryz.f5 (OpenSpec.ofChange Rows.fnExactReadDagSpec).bare Rows.fnExactReadDagRow = true := by
  unfold joinedFacts
  repeat' with_reducible refine andBrdg ?_ ?_
  all_goals (first | with_reducible exact unfrdg | with_reducible exact recrdg | with_reducible exact namrdg | with_reducible exact inprdg | (as_aux_lemma => kernel_rfl))
theorem wraprdg : Tryz.f5.isWrapper Tryz.prog Rows.fnExactReadDagRow.wrapper Rows.fnExactReadDagRow.mainSum := by unfold Func.isWrapper; first | (rw [if_pos (by decide +kernel)]; kernel_rfl) | (rw [if_neg (by decide +kernel)]; exact ⟨rfl, rfl⟩)
theorem instrdg : Tryz.f5.isInstance Tryz.prog Rows.fnExactReadDagRow.origin Rows.fnExactReadDagRow.targs := of_decide_eq_true (by kernel_rfl)

theorem saidrdg : Rows.FnExactReadDagSaid :=
  OpenClaim.holds_of_cond 5 Tryz.f5 rfl rfl rfl rfl rfl rfl rfl ⟨rfl, rfl, rfl, rfl, rfl⟩ rfl rfl rfl rfl rfl (by kernel_rfl) Tryz.func5 closedrdg
    instrdg wraprdg
    (fun os started H enc _ F => by rw [OpenClaim.pre_eq_preRow]; exact liftedrdg os started H enc F)

theorem plainrdg (f : FuncId) (fn : Func) (hf : Tryz.pinned.checked.prog.funcNamed Rows.fnExactReadDagRow.func = some f) (hfn : Tryz.pinned.checked.prog.funcs[f]? = some fn) :
    true = Tryz.pinned.checked.prog.looks [] ∧ ∀ (j : Nat) t, fn.params[j]? = some t → Tryz.pinned.checked.prog.wantsStandIn t = false := by
  obtain rfl : f = 5 := Option.some.inj ((show Tryz.prog.funcNamed Rows.fnExactReadDagRow.func = some 5 by kernel_rfl).symm.trans hf) |>.symm
  obtain rfl : fn = Tryz.f5 := (Option.some.inj (Tryz.func5.symm.trans hfn)).symm
  refine ⟨by kernel_rfl, fun j t ht => ?_⟩
  rw [Tryz.params5] at ht
  obtain rfl : t = 9 := by simpa using Array.mem_of_getElem? ht
  exact (show Tryz.prog.wantsStandIn 9 = false by kernel_rfl)

/-- THE CARD -/
theorem cardrdg : Rows.FnExactReadDagCardSaid :=
  Claim7.holds_tied_plain_at .later [] _ _ _ _ saidrdg (fun _ h => by cases h) (by kernel_rfl) (fun _ h => by cases h) fnExactReadDag_row_tie rfl ⟨rfl, rfl⟩ (by kernel_rfl) rfl plainrdg (by kernel_rfl)
#print axioms cardrdg
end Go.Proofs.YtlibipbpaigmdaaGreatDoor
