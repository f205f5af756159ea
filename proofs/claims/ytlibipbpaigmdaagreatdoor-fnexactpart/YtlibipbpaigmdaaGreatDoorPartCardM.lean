/-
  The card FnExactPartCardSaid: at every slice of nodes and every slice of texts the law returns true, and its arguments and the two tables startWords, roundWords read afterwards as before. Conditions: the row's own (the library's tables that it lists start as they are laid).
-/
import Derived.Test.YtlibipbpaigmdaaGreatDoorDagOpen
import Derived.Test.YtlibipbpaigmdaaGreatDoorDgP
namespace Go.Proofs.YtlibipbpaigmdaaGreatDoor
open Go.ChangeShapes Go.WideShapes Go.ChangeAt Go.RowKit Go.Deep
set_option linter.unusedVariables false

theorem pow_listedPt : (Rows.fnExactPartRow.laid.filter fun x => x.1 == "internal/strconv.uint64pow10") = [("internal/strconv.uint64pow10", Rows.laid_internal_strconv_uint64pow10)] := by kernel_rfl
theorem tabs_listedPt : (Rows.fnExactPartRow.laid.filter fun x => x.1 == "loop.example/g00318/impl.startWords" || x.1 == "loop.example/g00318/impl.roundWords") = [("loop.example/g00318/impl.startWords", Rows.laid_loop_example_g00318_impl_startWords), ("loop.example/g00318/impl.roundWords", Rows.laid_loop_example_g00318_impl_roundWords)] := by kernel_rfl
theorem all_of_laidPt {W : World} (h : laidMetH Tryz.prog Rows.fnExactPartRow.laid W) : AllT W := by
  have h1 := laidMetH.filter (fun x => x.1 == "internal/strconv.uint64pow10") h
  rw [pow_listedPt] at h1
  have h2 := laidMetH.filter (fun x => x.1 == "loop.example/g00318/impl.startWords" || x.1 == "loop.example/g00318/impl.roundWords") h
  rw [tabs_listedPt] at h2
  exact ⟨tabs_of_laid h2, pow_of_one h1⟩

set_option maxRecDepth 100000 in
theorem contractPt (H : Type) (enc : TypeId × Value → H) (W : World) (base : Nat) (args : Array Value) (ds gs : List (DataW H)) (before : List MemPlace)
    (hval : ∀ (j : Nat) t v, Tryz.f4.params[j]? = some t → args[j]? = some v → Value.okWide Tryz.prog W .any base t v)
    (hW : DataW.Whole enc Tryz.prog Tryz.f4.params.toList Rows.fnExactPartSpec.vars false W args.toList ds gs before) (hT : AllT W) :
    Calls Tryz.prog 4 args W fun e W' => ∃ v, e = .returned v ∧ Rows.fnExactPartSpec.post enc Tryz.prog Tryz.f4 false true false false W args v W' := by
  have hW' := hW
  obtain ⟨p, q, hA0, hV0, rfl, hfz, hnd⟩ := hW
  have hA : DataW.TrodAll enc Tryz.prog W 0 (fun _ => true) true Tryz.f4.params.toList args.toList ds p := hA0
  have hV : DataW.TrodVars enc Tryz.prog W (fun _ => true) ["loop.example/g00318/impl.startWords", "loop.example/g00318/impl.roundWords"] gs q := hV0
  rw [Tryz.params4] at hA hval
  obtain ⟨v0, vs0, d0, ds0, p0, q0, hargs, rfl, rfl, h0, r0⟩ := trodAll_cons hA
  obtain ⟨v1, vs1, d1, ds1, p1, q1, rfl, rfl, rfl, h1, r1⟩ := trodAll_cons r0
  obtain ⟨rfl, rfl, rfl⟩ := trodAll_nil r1
  obtain rfl : args = #[v0, v1] := by cases args; simp_all
  obtain ⟨rfl, rfl⟩ := hV.unique (vars_of_tabs enc hT.t _)
  obtain ⟨a0, len0, cap0, rfl⟩ := okWide_slice Tryz.underlying22 (hval 0 22 v0 rfl rfl)
  have k0 := h0
  have lt0 : ∀ x ∈ p0, x.block < W.heap.size := by obtain ⟨m, hm⟩ := k0; exact DataW.trod_lt m _ _ _ hm
  obtain ⟨a1, len1, cap1, rfl⟩ := okWide_slice Tryz.underlying25 (hval 1 25 v1 rfl rfl)
  have k1 := h1
  have lt1 : ∀ x ∈ p1, x.block < W.heap.size := by obtain ⟨m, hm⟩ := k1; exact DataW.trod_lt m _ _ _ hm
  obtain ⟨a0', n0, c0, D0, hv0, hI0, hF0⟩ : ∃ a len cap D, Value.slice a0 len0 cap0 = .slice a len cap ∧ IsNds W a len cap D ∧ Fine D len := by
    obtain ⟨fuel, hf⟩ := h0
    exact open_dag (by simpa [Value.cells] using hf)
  obtain ⟨a1', n1, c1, D1, hv1, hI1, hF1⟩ : ∃ u m uc S, Value.slice a1 len1 cap1 = .slice u m uc ∧ IsStrs W u m uc S ∧ ∀ i, i < m → (S i).size ≤ 9223372036854775807 := by
    obtain ⟨fuel, hf⟩ := h1
    exact open_strs (by simpa [Value.cells] using hf)
  rw [hv0, hv1]
  clear hA0 hV0
  refine (lawPt_walk a0' n0 c0 D0 a1' n1 c1 D1 W hI0 hF0 hI1 hF1 hT).mono fun e W' ⟨he, bel⟩ => ?_
  rw [← hv0, ← hv1]
  subst he
  have hT' := hT.below bel
  exact ⟨_, rfl, _, _, _, [], _, _, hW', trodAll_mk1 (shut_bool Tryz.underlying4 _), (trodAll_cons_mk (Below.trod laidOutN (by kernel_rfl) (of_decide_eq_true (by kernel_rfl)) k0 bel lt0) (trodAll_cons_mk (Below.trod laidOutN (by kernel_rfl) (of_decide_eq_true (by kernel_rfl)) k1 bel lt1) trodAll_mk0)), vars_of_tabs enc hT'.t _, bel.frame _, fun h => by cases h⟩

theorem laid_metPt (os : Os) : laidMet Tryz.prog Rows.fnExactPartRow.laid ((World.laidAll Tryz.prog os Rows.fnExactPartRow.laid).forCall (fun _ _ => 0) ⟨#[], #[.slice none 0 0, .slice none 0 0], []⟩).memory :=
  laidMet_laidAll _ (by kernel_rfl) (by kernel_rfl)
theorem readsPt (os : Os) {H : Type} (enc : TypeId × Value → H) : ∃ ds places, DataW.whole enc Tryz.prog ((World.laidAll Tryz.prog os Rows.fnExactPartRow.laid).forCall (fun _ _ => 0) ⟨#[], #[.slice none 0 0, .slice none 0 0], []⟩).memory Tryz.f4.params.toList Rows.fnExactPartSpec.vars false #[(.slice none 0 0 : Value), .slice none 0 0].toList 8 = some (ds, [startH, roundH], places) :=
  ⟨[.nil, .nil], MemPlace.row ⟨0, 0, none⟩ 8 ++ MemPlace.row ⟨1, 0, none⟩ 64, by kernel_rfl⟩

set_option maxRecDepth 100000 in
theorem liftedPt (os : Os) (started : os.Started) (H : Type) (enc : TypeId × Value → H) (F : Stop.Interp) :
    ReturnsInHanded {} Tryz.checked os 4 .any ((OpenSpec.ofChange Rows.fnExactPartSpec).preRow enc Tryz.prog Tryz.f4 Rows.fnExactPartRow.domain false Rows.fnExactPartRow.laid) (((OpenSpec.ofChange Rows.fnExactPartSpec).at F).post enc Tryz.prog Tryz.f4 false true false false) := by
  obtain ⟨dz, places, hx⟩ := readsPt os enc
  refine returnsInHanded_of_row (C := Tryz.checked) (s := OpenSpec.ofChange Rows.fnExactPartSpec) ownN started (by kernel_rfl) Tryz.func4
    (witness_row_at (enc := enc) (C := Tryz.checked) false (World.laidAll Tryz.prog os Rows.fnExactPartRow.laid) #[.slice none 0 0, .slice none 0 0] (World.laidAll_os _ _ _) (by kernel_rfl) (by kernel_rfl) (by kernel_rfl)
      (OpenSpec.preRow_of_cond 8 hx (by kernel_rfl) (fun k hk => by cases hk) (by kernel_rfl) (laid_metPt os))) ?_
  intro W base args ds gs before hval hW _ _ _ hL _ _
  exact contractPt H enc W base args ds gs before hval hW (all_of_laidPt hL)

theorem andBPt {a b : Bool} (h : a = true) (k : b = true) : (a && b) = true := by rw [h, k]; rfl
theorem unfPt : (Rows.fnExactPartRow.unfollowed == Tryz.pinned.checked.prog.unfollowed 4) = true := by kernel_rfl
theorem recPt : (Rows.fnExactPartRow.recurses == Tryz.pinned.checked.prog.recurses 4) = true := by kernel_rfl
theorem namPt : (Rows.fnExactPartRow.named == Tryz.pinned.checked.prog.varsNamed 4) = true := by kernel_rfl
theorem inpPt : (Rows.fnExactPartRow.inPlace == Tryz.pinned.checked.prog.inPlace 4) = true := by kernel_rfl
set_option maxRecDepth 100000 in
set_option maxHeartbeats 8000000 in
theorem closedPt : joinedFacts Tryz.pinned.checked.prog 4 Tryz.f4 (OpenSpec.ofChange Rows.fnExactPartSpec).bare Rows.fnExactPartRow = true := by
  unfold joinedFacts
  repeat' with_reducible refine andBPt ?_ ?_
  all_goals (first | with_reducible exact unfPt | with_reducible exact recPt | with_reducible exact namPt | with_reducible exact inpPt | (as_aux_lemma => kernel_rfl))
theorem wrapPt : Tryz.f4.isWrapper Tryz.prog Rows.fnExactPartRow.wrapper Rows.fnExactPartRow.mainSum := by unfold Func.isWrapper; first | (rw [if_pos (by decide +kernel)]; kernel_rfl) | (rw [if_neg (by decide +kernel)]; exact ⟨rfl, rfl⟩)
theorem instPt : Tryz.f4.isInstance Tryz.prog Rows.fnExactPartRow.origin Rows.fnExactPartRow.targs := of_decide_eq_true (by kernel_rfl)

theorem saidPt : Rows.FnExactPartSaid :=
  OpenClaim.holds_of_cond 4 Tryz.f4 rfl rfl rfl rfl rfl rfl rfl ⟨rfl, rfl, rfl, rfl, rfl⟩ rfl rfl rfl rfl rfl (by kernel_rfl) Tryz.func4 closedPt
    instPt wrapPt
    (fun os started H enc _ F => by rw [OpenClaim.pre_eq_preRow]; exact liftedPt os started H enc F)

theorem plainPt (f : FuncId) (fn : Func) (hf : Tryz.pinned.checked.prog.funcNamed Rows.fnExactPartRow.func = some f) (hfn : Tryz.pinned.checked.prog.funcs[f]? = some fn) :
    true = Tryz.pinned.checked.prog.looks [] ∧ ∀ (j : Nat) t, fn.params[j]? = some t → Tryz.pinned.checked.prog.wantsStandIn t = false := by
  obtain rfl : f = 4 := Option.some.inj ((show Tryz.prog.funcNamed Rows.fnExactPartRow.func = some 4 by kernel_rfl).symm.trans hf) |>.symm
  obtain rfl : fn = Tryz.f4 := (Option.some.inj (Tryz.func4.symm.trans hfn)).symm
  refine ⟨by kernel_rfl, fun j t ht => ?_⟩
  rw [Tryz.params4] at ht
  have hm : t = 22 ∨ t = 25 := by simpa using Array.mem_of_getElem? ht
  rcases hm with rfl | rfl
  · exact (show Tryz.prog.wantsStandIn 22 = false by kernel_rfl)
  · exact (show Tryz.prog.wantsStandIn 25 = false by kernel_rfl)

/-- THE CARD -/
theorem cardPt : Rows.FnExactPartCardSaid :=
  Claim7.holds_tied_plain_at .later [] _ _ _ _ saidPt (fun _ h => by cases h) (by kernel_rfl) (fun _ h => by cases h) fnExactPart_row_tie rfl ⟨rfl, rfl⟩ (by kernel_rfl) rfl plainPt (by kernel_rfl)
#print axioms cardPt
end Go.Proofs.YtlibipbpaigmdaaGreatDoor
