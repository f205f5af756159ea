/-
  The card FnNodesCardSaid: at every slice of bytes the law returns true, and its arguments and the two tables startWords, roundWords read afterwards as before. Conditions: the row's own (the library's tables that it lists start as they are laid).
-/
import Derived.Test.YtlibipbpaigmdaaGreatDoorDagOpen
import Derived.Test.YtlibipbpaigmdaaGreatDoorDgN
import Derived.Test.YtlibipbpaigmdaaGreatDoorDgG
import Derived.Shelf.Vars
namespace Go.Proofs.YtlibipbpaigmdaaGreatDoor
open Go.ChangeShapes Go.WideShapes Go.ChangeAt Go.RowKit Go.Deep
set_option linter.unusedVariables false

theorem pow_listedNd : (Rows.fnNodesRow.laid.filter fun x => x.1 == "internal/strconv.uint64pow10") = [("internal/strconv.uint64pow10", Rows.laid_internal_strconv_uint64pow10)] := by kernel_rfl
theorem tabs_listedNd : (Rows.fnNodesRow.laid.filter fun x => x.1 == "loop.example/g00318/impl.startWords" || x.1 == "loop.example/g00318/impl.roundWords") = [("loop.example/g00318/impl.startWords", Rows.laid_loop_example_g00318_impl_startWords), ("loop.example/g00318/impl.roundWords", Rows.laid_loop_example_g00318_impl_roundWords)] := by kernel_rfl
theorem all_of_laidNd {W : World} (h : laidMetH Tryz.prog Rows.fnNodesRow.laid W) : AllT W := by
  have h1 := laidMetH.filter (fun x => x.1 == "internal/strconv.uint64pow10") h
  rw [pow_listedNd] at h1
  have h2 := laidMetH.filter (fun x => x.1 == "loop.example/g00318/impl.startWords" || x.1 == "loop.example/g00318/impl.roundWords") h
  rw [tabs_listedNd] at h2
  exact ⟨tabs_of_laid h2, pow_of_one h1⟩

theorem maxLen_shapedNd {W : World} (h : W.ShapedOpen Tryz.prog) : ∃ m, W.cell? ⟨3, 0, none⟩ = some (.int .i64 m) :=
  cell_of_shapedOpen_int (t := 3) (zero := #[.int .i64 0]) h (of_decide_eq_true (by kernel_rfl)) (by kernel_rfl) rfl (by kernel_rfl) (by kernel_rfl) Tryz.underlying3

set_option maxRecDepth 100000 in
theorem contractNd (H : Type) (enc : TypeId × Value → H) (W : World) (base : Nat) (args : Array Value) (ds gs : List (DataW H)) (before : List MemPlace)
    (hval : ∀ (j : Nat) t v, Tryz.f10.params[j]? = some t → args[j]? = some v → Value.okWide Tryz.prog W .any base t v)
    (hW : DataW.Whole enc Tryz.prog Tryz.f10.params.toList Rows.fnNodesSpec.vars false W args.toList ds gs before) (hT : AllT W) (m : Int) (hm : W.cell? ⟨3, 0, none⟩ = some (.int .i64 m)) :
    Calls Tryz.prog 10 args W fun e W' => ∃ v, e = .returned v ∧ Rows.fnNodesSpec.post enc Tryz.prog Tryz.f10 false true false false W args v W' := by
  have hW' := hW
  obtain ⟨p, q, hA0, hV0, rfl, hfz, hnd⟩ := hW
  have hA : DataW.TrodAll enc Tryz.prog W 0 (fun _ => true) true Tryz.f10.params.toList args.toList ds p := hA0
  have hV : DataW.TrodVars enc Tryz.prog W (fun _ => true) ["loop.example/g00318/impl.startWords", "loop.example/g00318/impl.roundWords"] gs q := hV0
  rw [Tryz.params10] at hA hval
  obtain ⟨v0, vs0, d0, ds0, p0, q0, hargs, rfl, rfl, h0, r0⟩ := trodAll_cons hA
  obtain ⟨rfl, rfl, rfl⟩ := trodAll_nil r0
  obtain rfl : args = #[v0] := by cases args; simp_all
  obtain ⟨rfl, rfl⟩ := hV.unique (vars_of_tabs enc hT.t _)
  obtain ⟨a0, len0, cap0, rfl⟩ := okWide_slice Tryz.underlying44 (hval 0 44 v0 rfl rfl)
  have k0 := h0
  have lt0 : ∀ x ∈ p0, x.block < W.heap.size := by obtain ⟨m, hm⟩ := k0; exact DataW.trod_lt m _ _ _ hm
  obtain ⟨Z0, hI0⟩ : ∃ Z, IsU8 W a0 len0 cap0 Z := by
    obtain ⟨fuel, hf⟩ := h0
    obtain ⟨a, len, cap, Z, e, hI⟩ := open_u8 (by simpa [Value.cells] using hf)
    simp at e
    obtain ⟨rfl, rfl, rfl⟩ := e
    exact ⟨Z, hI⟩
  clear hA0 hV0
  refine (fnNodes_walk  W m hI0 hT hm).mono fun e W' ⟨he, bel⟩ => ?_
  subst he
  have hT' := hT.below bel
  exact ⟨_, rfl, _, _, _, [], _, _, hW', trodAll_mk1 (shut_bool Tryz.underlying4 _), (trodAll_cons_mk (Below.trod laidOutN (by kernel_rfl) (of_decide_eq_true (by kernel_rfl)) k0 bel lt0) trodAll_mk0), vars_of_tabs enc hT'.t _, bel.frame _, fun h => by cases h⟩

theorem laid_metNd (os : Os) : laidMet Tryz.prog Rows.fnNodesRow.laid ((World.laidAll Tryz.prog os Rows.fnNodesRow.laid).forCall (fun _ _ => 0) ⟨#[], #[.slice none 0 0], []⟩).memory :=
  laidMet_laidAll _ (by kernel_rfl) (by kernel_rfl)
theorem readsNd (os : Os) {H : Type} (enc : TypeId × Value → H) : ∃ ds places, DataW.whole enc Tryz.prog ((World.laidAll Tryz.prog os Rows.fnNodesRow.laid).forCall (fun _ _ => 0) ⟨#[], #[.slice none 0 0], []⟩).memory Tryz.f10.params.toList Rows.fnNodesSpec.vars false #[(.slice none 0 0 : Value)].toList 8 = some (ds, [startH, roundH], places) :=
  ⟨[.nil], MemPlace.row ⟨0, 0, none⟩ 8 ++ MemPlace.row ⟨1, 0, none⟩ 64, by kernel_rfl⟩

set_option maxRecDepth 100000 in
theorem liftedNd (os : Os) (started : os.Started) (H : Type) (enc : TypeId × Value → H) (F : Stop.Interp) :
    ReturnsInHanded {} Tryz.checked os 10 .any ((OpenSpec.ofChange Rows.fnNodesSpec).preRow enc Tryz.prog Tryz.f10 Rows.fnNodesRow.domain false Rows.fnNodesRow.laid) (((OpenSpec.ofChange Rows.fnNodesSpec).at F).post enc Tryz.prog Tryz.f10 false true false false) := by
  obtain ⟨dz, places, hx⟩ := readsNd os enc
  refine returnsInHanded_of_row (C := Tryz.checked) (s := OpenSpec.ofChange Rows.fnNodesSpec) ownN started (by kernel_rfl) Tryz.func10
    (witness_row_at (enc := enc) (C := Tryz.checked) false (World.laidAll Tryz.prog os Rows.fnNodesRow.laid) #[.slice none 0 0] (World.laidAll_os _ _ _) (by kernel_rfl) (by kernel_rfl) (by kernel_rfl)
      (OpenSpec.preRow_of_cond 8 hx (by kernel_rfl) (fun k hk => by cases hk) (by kernel_rfl) (laid_metNd os))) ?_
  intro W base args ds gs before hval hW _ _ _ hL hsh _
  obtain ⟨m, hm⟩ := maxLen_shapedNd hsh
  exact contractNd H enc W base args ds gs before hval hW (all_of_laidNd hL) m hm

theorem andBNd {a b : Bool} (h : a = true) (k : b = true) : (a && b) = true := by rw [h, k]; rfl
theorem unfNd : (Rows.fnNodesRow.unfollowed == Tryz.pinned.checked.prog.unfollowed 10) = true := by kernel_rfl
theorem recNd : (Rows.fnNodesRow.recurses == Tryz.pinned.checked.prog.recurses 10) = true := by kernel_rfl
theorem namNd : (Rows.fnNodesRow.named == Tryz.pinned.checked.prog.varsNamed 10) = true := by kernel_rfl
theorem inpNd : (Rows.fnNodesRow.inPlace == Tryz.pinned.checked.prog.inPlace 10) = true := by kernel_rfl
set_option maxRecDepth 100000 in
set_option maxHeartbeats 8000000 in
theorem closedNd : joinedFacts Tryz.pinned.checked.prog 10 Tryz.f10 (OpenSpec.ofChange Rows.fnNodesSpec).bare Rows.fnNodesRow = true := by
  unfold joinedFacts
  repeat' with_reducible refine andBNd ?_ ?_
  all_goals (first | with_reducible exact unfNd | with_reducible exact recNd | with_reducible exact namNd | with_reducible exact inpNd | (as_aux_lemma => kernel_rfl))
theorem wrapNd : Tryz.f10.isWrapper Tryz.prog Rows.fnNodesRow.wrapper Rows.fnNodesRow.mainSum := by unfold Func.isWrapper; first | (rw [if_pos (by decide +kernel)]; kernel_rfl) | (rw [if_neg (by decide +kernel)]; exact ⟨rfl, rfl⟩)
theorem instNd : Tryz.f10.isInstance Tryz.prog Rows.fnNodesRow.origin Rows.fnNodesRow.targs := of_decide_eq_true (by kernel_rfl)

theorem saidNd : Rows.FnNodesSaid :=
  OpenClaim.holds_of_cond 10 Tryz.f10 rfl rfl rfl rfl rfl rfl rfl ⟨rfl, rfl, rfl, rfl, rfl⟩ rfl rfl rfl rfl rfl (by kernel_rfl) Tryz.func10 closedNd
    instNd wrapNd
    (fun os started H enc _ F => by rw [OpenClaim.pre_eq_preRow]; exact liftedNd os started H enc F)

theorem plainNd (f : FuncId) (fn : Func) (hf : Tryz.pinned.checked.prog.funcNamed Rows.fnNodesRow.func = some f) (hfn : Tryz.pinned.checked.prog.funcs[f]? = some fn) :
    true = Tryz.pinned.checked.prog.looks [] ∧ ∀ (j : Nat) t, fn.params[j]? = some t → Tryz.pinned.checked.prog.wantsStandIn t = false := by
  obtain rfl : f = 10 := Option.some.inj ((show Tryz.prog.funcNamed Rows.fnNodesRow.func = some 10 by kernel_rfl).symm.trans hf) |>.symm
  obtain rfl : fn = Tryz.f10 := (Option.some.inj (Tryz.func10.symm.trans hfn)).symm
  refine ⟨by kernel_rfl, fun j t ht => ?_⟩
  rw [Tryz.params10] at ht
  obtain rfl : t = 44 := by simpa using Array.mem_of_getElem? ht
  exact (show Tryz.prog.wantsStandIn 44 = false by kernel_rfl)

/-- THE CARD -/
theorem cardNd : Rows.FnNodesCardSaid :=
  Claim7.holds_tied_plain_at .later [] _ _ _ _ saidNd (fun _ h => by cases h) (by kernel_rfl) (fun _ h => by cases h) fnNodes_row_tie rfl ⟨rfl, rfl⟩ (by kernel_rfl) rfl plainNd (by kernel_rfl)
#print axioms cardNd
end Go.Proofs.YtlibipbpaigmdaaGreatDoor
