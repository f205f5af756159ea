/-
  The card FnExactCanMakeCardSaid: at every slice of texts and every text the law returns true, and its arguments read afterwards as before. Conditions: the row's own (the library's tables that it lists start as they are laid).
-/
import Derived.Test.YtpcbhjejpebogaaDoorOqOpen
import Derived.Test.YtpcbhjejpebogaaDoorOqE
namespace Go.Proofs.YtpcbhjejpebogaaDoor
open Go.ChangeShapes Go.WideShapes Go.ChangeAt Go.RowKit Go.Deep
set_option linter.unusedVariables false

theorem pow_listedcmk : (Rows.fnExactCanMakeRow.laid.filter fun x => x.1 == "internal/strconv.uint64pow10") = [("internal/strconv.uint64pow10", Rows.laid_internal_strconv_uint64pow10)] := by kernel_rfl
theorem all_of_laidcmk {W : World} (h : laidMetH Tryd.prog Rows.fnExactCanMakeRow.laid W) : Pow W := by
  have h1 := laidMetH.filter (fun x => x.1 == "internal/strconv.uint64pow10") h
  rw [pow_listedcmk] at h1
  exact pow_of_one h1

set_option maxRecDepth 100000 in
theorem contractcmk (H : Type) (enc : TypeId × Value → H) (W : World) (base : Nat) (args : Array Value) (ds gs : List (DataW H)) (before : List MemPlace)
    (hval : ∀ (j : Nat) t v, Tryd.f4.params[j]? = some t → args[j]? = some v → Value.okWide Tryd.prog W .any base t v)
    (hW : DataW.Whole enc Tryd.prog Tryd.f4.params.toList Rows.fnExactCanMakeSpec.vars false W args.toList ds gs before) (hT : Pow W) :
    Calls Tryd.prog 4 args W fun e W' => ∃ v, e = .returned v ∧ Rows.fnExactCanMakeSpec.post enc Tryd.prog Tryd.f4 false true false false W args v W' := by
  have hW' := hW
  obtain ⟨p, q, hA0, hV0, rfl, hfz, hnd⟩ := hW
  have hA : DataW.TrodAll enc Tryd.prog W 0 (fun _ => true) true Tryd.f4.params.toList args.toList ds p := hA0
  rw [Tryd.params4] at hA hval
  obtain ⟨v0, vs0, d0, ds0, p0, q0, hargs, rfl, rfl, h0, r0⟩ := trodAll_cons hA
  obtain ⟨v1, vs1, d1, ds1, p1, q1, rfl, rfl, rfl, h1, r1⟩ := trodAll_cons r0
  obtain ⟨rfl, rfl, rfl⟩ := trodAll_nil r1
  obtain rfl : args = #[v0, v1] := by cases args; simp_all
  obtain ⟨rfl, rfl⟩ := trodVars_none hV0
  obtain ⟨a0, len0, cap0, rfl⟩ := okWide_slice Tryd.underlying22 (hval 0 22 v0 rfl rfl)
  have k0 := h0
  have lt0 : ∀ x ∈ p0, x.block < W.heap.size := by obtain ⟨m, hm⟩ := k0; exact DataW.trod_lt m _ _ _ hm
  obtain ⟨s1, rfl, rfl, rfl, ws1⟩ := Go.ChangeMaps.open_string Tryd.underlying9 (hval 1 9 v1 rfl rfl) h1
  obtain ⟨a0', n0, c0, D0, hv0, hI0, hF0⟩ : ∃ u m uc S, Value.slice a0 len0 cap0 = .slice u m uc ∧ IsStrs W u m uc S ∧ ∀ i, i < m → (S i).size ≤ 9223372036854775807 := by
    obtain ⟨fuel, hf⟩ := h0
    exact open_strs (by simpa [Value.cells] using hf)
  rw [hv0]
  clear hA0
  refine (canmake_walk a0' n0 c0 D0 s1 W hI0 hF0  (by unfold maxLen at ws1; omega) hT).mono fun e W' ⟨he, bel⟩ => ?_
  rw [← hv0]
  subst he
  exact ⟨_, rfl, _, _, _, [], _, [], hW', trodAll_mk1 (shut_bool Tryd.underlying4 _), (trodAll_cons_mk (Below.trod laidOutN (by kernel_rfl) (of_decide_eq_true (by kernel_rfl)) k0 bel lt0) (trodAll_cons_mk (Go.ChangeMaps.shut_string Tryd.underlying9 ws1) trodAll_mk0)), rfl, bel.frame _, fun h => by cases h⟩

theorem laid_metcmk (os : Os) : laidMet Tryd.prog Rows.fnExactCanMakeRow.laid ((World.laidAll Tryd.prog os Rows.fnExactCanMakeRow.laid).forCall (fun _ _ => 0) ⟨#[], #[.slice none 0 0, .string ⟨#[]⟩], []⟩).memory :=
  laidMet_laidAll _ (by kernel_rfl) (by kernel_rfl)
theorem readscmk (os : Os) {H : Type} (enc : TypeId × Value → H) : ∃ ds places, DataW.whole enc Tryd.prog ((World.laidAll Tryd.prog os Rows.fnExactCanMakeRow.laid).forCall (fun _ _ => 0) ⟨#[], #[.slice none 0 0, .string ⟨#[]⟩], []⟩).memory Tryd.f4.params.toList Rows.fnExactCanMakeSpec.vars false #[(.slice none 0 0 : Value), .string ⟨#[]⟩].toList 8 = some (ds, [], places) :=
  ⟨[.nil, .lit (.string [])], [], by kernel_rfl⟩

set_option maxRecDepth 100000 in
theorem liftedcmk (os : Os) (started : os.Started) (H : Type) (enc : TypeId × Value → H) (F : Stop.Interp) :
    ReturnsInHanded {} Tryd.checked os 4 .any ((OpenSpec.ofChange Rows.fnExactCanMakeSpec).preRow enc Tryd.prog Tryd.f4 Rows.fnExactCanMakeRow.domain false Rows.fnExactCanMakeRow.laid) (((OpenSpec.ofChange Rows.fnExactCanMakeSpec).at F).post enc Tryd.prog Tryd.f4 false true false false) := by
  obtain ⟨dz, places, hx⟩ := readscmk os enc
  refine returnsInHanded_of_row (C := Tryd.checked) (s := OpenSpec.ofChange Rows.fnExactCanMakeSpec) ownN started (by kernel_rfl) Tryd.func4
    (witness_row_at (enc := enc) (C := Tryd.checked) false (World.laidAll Tryd.prog os Rows.fnExactCanMakeRow.laid) #[.slice none 0 0, .string ⟨#[]⟩] (World.laidAll_os _ _ _) (by kernel_rfl) (by kernel_rfl) (by kernel_rfl)
      (OpenSpec.preRow_of_cond 8 hx (by kernel_rfl) (fun k hk => by cases hk) (by kernel_rfl) (laid_metcmk os))) ?_
  intro W base args ds gs before hval hW _ _ _ hL _ _
  exact contractcmk H enc W base args ds gs before hval hW (all_of_laidcmk hL)

theorem andBcmk {a b : Bool} (h : a = true) (k : b = true) : (a && b) = true := by rw [h, k]; rfl
theorem unfcmk : (Rows.fnExactCanMakeRow.unfollowed == Tryd.pinned.checked.prog.unfollowed 4) = true := by kernel_rfl
theorem reccmk : (Rows.fnExactCanMakeRow.recurses == Tryd.pinned.checked.prog.recurses 4) = true := by kernel_rfl
theorem namcmk : (Rows.fnExactCanMakeRow.named == Tryd.pinned.checked.prog.varsNamed 4) = true := by kernel_rfl
theorem inpcmk : (Rows.fnExactCanMakeRow.inPlace == Tryd.pinned.checked.prog.inPlace 4) = true := by kernel_rfl
set_option maxRecDepth 100000 in
set_option maxHeartbeats 8000000 in
theorem closedcmk : joinedFacts Tryd.pinned.checked.prog 4 Tryd.f4 (OpenSpec.ofChange Rows.fnExactCanMakeSpec).bare Rows.fnExactCanMakeRow = true := by
  unfold joinedFacts
  repeat' with_reducible refine andBcmk ?_ ?_
  all_goals (first | with_reducible exact unfcmk | with_reducible exact reccmk | with_reducible exact namcmk | with_reducible exact inpcmk | (as_aux_lemma => kernel_rfl))
theorem wrapcmk : Tryd.f4.isWrapper Tryd.prog Rows.fnExactCanMakeRow.wrapper Rows.fnExactCanMakeRow.mainSum := by unfold Func.isWrapper; first | (rw [if_pos (by decide +kernel)]; kernel_rfl) | (rw [if_neg (by decide +kernel)]; exact ⟨rfl, rfl⟩)
theorem instcmk : Tryd.f4.isInstance Tryd.prog Rows.fnExactCanMakeRow.origin Rows.fnExactCanMakeRow.targs := of_decide_eq_true (by kernel_rfl)

theorem saidcmk : Rows.FnExactCanMakeSaid :=
  OpenClaim.holds_of_cond 4 Tryd.f4 rfl rfl rfl rfl rfl rfl rfl ⟨rfl, rfl, rfl, rfl, rfl⟩ rfl rfl rfl rfl rfl (by kernel_rfl) Tryd.func4 closedcmk
    instcmk wrapcmk
    (fun os started H enc _ F => by rw [OpenClaim.pre_eq_preRow]; exact liftedcmk os started H enc F)

theorem plaincmk (f : FuncId) (fn : Func) (hf : Tryd.pinned.checked.prog.funcNamed Rows.fnExactCanMakeRow.func = some f) (hfn : Tryd.pinned.checked.prog.funcs[f]? = some fn) :
    true = Tryd.pinned.checked.prog.looks [] ∧ ∀ (j : Nat) t, fn.params[j]? = some t → Tryd.pinned.checked.prog.wantsStandIn t = false := by
  obtain rfl : f = 4 := Option.some.inj ((show Tryd.prog.funcNamed Rows.fnExactCanMakeRow.func = some 4 by kernel_rfl).symm.trans hf) |>.symm
  obtain rfl : fn = Tryd.f4 := (Option.some.inj (Tryd.func4.symm.trans hfn)).symm
  refine ⟨by kernel_rfl, fun j t ht => ?_⟩
  rw [Tryd.params4] at ht
  have hm : t = 22 ∨ t = 9 := by simpa using Array.mem_of_getElem? ht
  rcases hm with rfl | rfl
  · exact (show Tryd.prog.wantsStandIn 22 = false by kernel_rfl)
  · exact (show Tryd.prog.wantsStandIn 9 = false by kernel_rfl)

/-- THE CARD -/
theorem cardcmk : Rows.FnExactCanMakeCardSaid :=
  Claim7.holds_tied_plain_at .later [] _ _ _ _ saidcmk (fun _ h => by cases h) (by kernel_rfl) (fun _ h => by cases h) fnExactCanMake_row_tie rfl ⟨rfl, rfl⟩ (by kernel_rfl) rfl plaincmk (by kernel_rfl)
#print axioms cardcmk
end Go.Proofs.YtpcbhjejpebogaaDoor
