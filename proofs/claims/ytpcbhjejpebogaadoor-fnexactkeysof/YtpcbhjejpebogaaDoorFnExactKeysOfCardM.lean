/-
  The card FnExactKeysOfCardSaid: at every slice of epochs and every slice of texts the law returns true, and its arguments read afterwards as before. Conditions: the row's own (the library's tables that it lists start as they are laid).
-/
import Derived.Test.YtpcbhjejpebogaaDoorOqOpen
import Derived.Test.YtpcbhjejpebogaaDoorTgM
namespace Go.Proofs.YtpcbhjejpebogaaDoor
open Go.ChangeShapes Go.WideShapes Go.ChangeAt Go.RowKit Go.Deep
set_option linter.unusedVariables false

theorem pow_listedkyo : (Rows.fnExactKeysOfRow.laid.filter fun x => x.1 == "internal/strconv.uint64pow10") = [("internal/strconv.uint64pow10", Rows.laid_internal_strconv_uint64pow10)] := by kernel_rfl
theorem all_of_laidkyo {W : World} (h : laidMetH Tryd.prog Rows.fnExactKeysOfRow.laid W) : Pow W := by
  have h1 := laidMetH.filter (fun x => x.1 == "internal/strconv.uint64pow10") h
  rw [pow_listedkyo] at h1
  exact pow_of_one h1

set_option maxRecDepth 100000 in
theorem contractkyo (H : Type) (enc : TypeId × Value → H) (W : World) (base : Nat) (args : Array Value) (ds gs : List (DataW H)) (before : List MemPlace)
    (hval : ∀ (j : Nat) t v, Tryd.f5.params[j]? = some t → args[j]? = some v → Value.okWide Tryd.prog W .any base t v)
    (hW : DataW.Whole enc Tryd.prog Tryd.f5.params.toList Rows.fnExactKeysOfSpec.vars false W args.toList ds gs before) (hT : Pow W) :
    Calls Tryd.prog 5 args W fun e W' => ∃ v, e = .returned v ∧ Rows.fnExactKeysOfSpec.post enc Tryd.prog Tryd.f5 false true false false W args v W' := by
  have hW' := hW
  obtain ⟨p, q, hA0, hV0, rfl, hfz, hnd⟩ := hW
  have hA : DataW.TrodAll enc Tryd.prog W 0 (fun _ => true) true Tryd.f5.params.toList args.toList ds p := hA0
  rw [Tryd.params5] at hA hval
  obtain ⟨v0, vs0, d0, ds0, p0, q0, hargs, rfl, rfl, h0, r0⟩ := trodAll_cons hA
  obtain ⟨v1, vs1, d1, ds1, p1, q1, rfl, rfl, rfl, h1, r1⟩ := trodAll_cons r0
  obtain ⟨rfl, rfl, rfl⟩ := trodAll_nil r1
  obtain rfl : args = #[v0, v1] := by cases args; simp_all
  obtain ⟨rfl, rfl⟩ := trodVars_none hV0
  obtain ⟨a0, len0, cap0, rfl⟩ := okWide_slice Tryd.underlying28 (hval 0 28 v0 rfl rfl)
  have k0 := h0
  have lt0 : ∀ x ∈ p0, x.block < W.heap.size := by obtain ⟨m, hm⟩ := k0; exact DataW.trod_lt m _ _ _ hm
  obtain ⟨a1, len1, cap1, rfl⟩ := okWide_slice Tryd.underlying22 (hval 1 22 v1 rfl rfl)
  have k1 := h1
  have lt1 : ∀ x ∈ p1, x.block < W.heap.size := by obtain ⟨m, hm⟩ := k1; exact DataW.trod_lt m _ _ _ hm
  obtain ⟨a0', n0, c0, D0, hv0, hI0, hF0⟩ : ∃ a len cap D, Value.slice a0 len0 cap0 = .slice a len cap ∧ IsEps W a len cap D ∧ EFine D len := by
    obtain ⟨fuel, hf⟩ := h0
    exact open_epsK (by simpa [Value.cells] using hf)
  obtain ⟨a1', n1, c1, D1, hv1, hI1, hF1⟩ : ∃ u m uc S, Value.slice a1 len1 cap1 = .slice u m uc ∧ IsStrs W u m uc S ∧ ∀ i, i < m → (S i).size ≤ 9223372036854775807 := by
    obtain ⟨fuel, hf⟩ := h1
    exact open_strs (by simpa [Value.cells] using hf)
  rw [hv0, hv1]
  clear hA0
  refine (keysOf_walk a0' n0 c0 D0 a1' n1 c1 D1 W hI0 hF0 hI1 hF1 hT).mono fun e W' ⟨he, bel⟩ => ?_
  rw [← hv0, ← hv1]
  subst he
  exact ⟨_, rfl, _, _, _, [], _, [], hW', trodAll_mk1 (shut_bool Tryd.underlying4 _), (trodAll_cons_mk (Below.trod laidOutN (by kernel_rfl) (of_decide_eq_true (by kernel_rfl)) k0 bel lt0) (trodAll_cons_mk (Below.trod laidOutN (by kernel_rfl) (of_decide_eq_true (by kernel_rfl)) k1 bel lt1) trodAll_mk0)), rfl, bel.frame _, fun h => by cases h⟩

theorem laid_metkyo (os : Os) : laidMet Tryd.prog Rows.fnExactKeysOfRow.laid ((World.laidAll Tryd.prog os Rows.fnExactKeysOfRow.laid).forCall (fun _ _ => 0) ⟨#[], #[.slice none 0 0, .slice none 0 0], []⟩).memory :=
  laidMet_laidAll _ (by kernel_rfl) (by kernel_rfl)
theorem readskyo (os : Os) {H : Type} (enc : TypeId × Value → H) : ∃ ds places, DataW.whole enc Tryd.prog ((World.laidAll Tryd.prog os Rows.fnExactKeysOfRow.laid).forCall (fun _ _ => 0) ⟨#[], #[.slice none 0 0, .slice none 0 0], []⟩).memory Tryd.f5.params.toList Rows.fnExactKeysOfSpec.vars false #[(.slice none 0 0 : Value), .slice none 0 0].toList 8 = some (ds, [], places) :=
  ⟨[.nil, .nil], [], by kernel_rfl⟩

set_option maxRecDepth 100000 in
theorem liftedkyo (os : Os) (started : os.Started) (H : Type) (enc : TypeId × Value → H) (F : Stop.Interp) :
    ReturnsInHanded {} Tryd.checked os 5 .any ((OpenSpec.ofChange Rows.fnExactKeysOfSpec).preRow enc Tryd.prog Tryd.f5 Rows.fnExactKeysOfRow.domain false Rows.fnExactKeysOfRow.laid) (((OpenSpec.ofChange Rows.fnExactKeysOfSpec).at F).post enc Tryd.prog Tryd.f5 false true false false) := by
  obtain ⟨dz, places, hx⟩ := readskyo os enc
  refine returnsInHanded_of_row (C := Tryd.checked) (s := OpenSpec.ofChange Rows.fnExactKeysOfSpec) ownN started (by kernel_rfl) Tryd.func5
    (witness_row_at (enc := enc) (C := Tryd.checked) false (World.laidAll Tryd.prog os Rows.fnExactKeysOfRow.laid) #[.slice none 0 0, .slice none 0 0] (World.laidAll_os _ _ _) (by kernel_rfl) (by kernel_rfl) (by kernel_rfl)
      (OpenSpec.preRow_of_cond 8 hx (by kernel_rfl) (fun k hk => by cases hk) (by kernel_rfl) (laid_metkyo os))) ?_
  intro W base args ds gs before hval hW _ _ _ hL _ _
  exact contractkyo H enc W base args ds gs before hval hW (all_of_laidkyo hL)

theorem andBkyo {a b : Bool} (h : a = true) (k : b = true) : (a && b) = true := by rw [h, k]; rfl
theorem unfkyo : (Rows.fnExactKeysOfRow.unfollowed == Tryd.pinned.checked.prog.unfollowed 5) = true := by kernel_rfl
theorem reckyo : (Rows.fnExactKeysOfRow.recurses == Tryd.pinned.checked.prog.recurses 5) = true := by kernel_rfl
theorem namkyo : (Rows.fnExactKeysOfRow.named == Tryd.pinned.checked.prog.varsNamed 5) = true := by kernel_rfl
theorem inpkyo : (Rows.fnExactKeysOfRow.inPlace == Tryd.pinned.checked.prog.inPlace 5) = true := by kernel_rfl
set_option maxRecDepth 100000 in
set_option maxHeartbeats 8000000 in
theorem closedkyo : joinedFacts Tryd.pinned.checked.prog 5 Tryd.f5 (OpenSpec.ofChange Rows.fnExactKeysOfSpec).bare Rows.fnExactKeysOfRow = true := by
  unfold joinedFacts
  repeat' with_reducible refine andBkyo ?_ ?_
  all_goals (first | with_reducible exact unfkyo | with_reducible exact reckyo | with_reducible exact namkyo | with_reducible exact inpkyo | (as_aux_lemma => kernel_rfl))
theorem wrapkyo : Tryd.f5.isWrapper Tryd.prog Rows.fnExactKeysOfRow.wrapper Rows.fnExactKeysOfRow.mainSum := by unfold Func.isWrapper; first | (rw [if_pos (by decide +kernel)]; kernel_rfl) | (rw [if_neg (by decide +kernel)]; exact ⟨rfl, rfl⟩)
theorem instkyo : Tryd.f5.isInstance Tryd.prog Rows.fnExactKeysOfRow.origin Rows.fnExactKeysOfRow.targs := of_decide_eq_true (by kernel_rfl)

theorem saidkyo : Rows.FnExactKeysOfSaid :=
  OpenClaim.holds_of_cond 5 Tryd.f5 rfl rfl rfl rfl rfl rfl rfl ⟨rfl, rfl, rfl, rfl, rfl⟩ rfl rfl rfl rfl rfl (by kernel_rfl) Tryd.func5 closedkyo
    instkyo wrapkyo
    (fun os started H enc _ F => by rw [OpenClaim.pre_eq_preRow]; exact liftedkyo os started H enc F)

theorem plainkyo (f : FuncId) (fn : Func) (hf : Tryd.pinned.checked.prog.funcNamed Rows.fnExactKeysOfRow.func = some f) (hfn : Tryd.pinned.checked.prog.funcs[f]? = some fn) :
    true = Tryd.pinned.checked.prog.looks [] ∧ ∀ (j : Nat) t, fn.params[j]? = some t → Tryd.pinned.checked.prog.wantsStandIn t = false := by
  obtain rfl : f = 5 := Option.some.inj ((show Tryd.prog.funcNamed Rows.fnExactKeysOfRow.func = some 5 by kernel_rfl).symm.trans hf) |>.symm
  obtain rfl : fn = Tryd.f5 := (Option.some.inj (Tryd.func5.symm.trans hfn)).symm
  refine ⟨by kernel_rfl, fun j t ht => ?_⟩
  rw [Tryd.params5] at ht
  have hm : t = 28 ∨ t = 22 := by simpa using Array.mem_of_getElem? ht
  rcases hm with rfl | rfl
  · exact (show Tryd.prog.wantsStandIn 28 = false by kernel_rfl)
  · exact (show Tryd.prog.wantsStandIn 22 = false by kernel_rfl)

/-- THE CARD -/
theorem cardkyo : Rows.FnExactKeysOfCardSaid :=
  Claim7.holds_tied_plain_at .later [] _ _ _ _ saidkyo (fun _ h => by cases h) (by kernel_rfl) (fun _ h => by cases h) fnExactKeysOf_row_tie rfl ⟨rfl, rfl⟩ (by kernel_rfl) rfl plainkyo (by kernel_rfl)
#print axioms cardkyo
end Go.Proofs.YtpcbhjejpebogaaDoor
