/-
  The card FnSecretCardSaid: at every slice of bytes the law returns true, and its arguments read afterwards as before. Conditions: the row's own (the library's tables that it lists start as they are laid).
-/
import Derived.Test.YtpcbhjejpebogaaDoorOqOpen
import Derived.Test.YtpcbhjejpebogaaDoorTgE
import Derived.Test.YtpcbhjejpebogaaDoorOpT
namespace Go.Proofs.YtpcbhjejpebogaaDoor
open Go.ChangeShapes Go.WideShapes Go.ChangeAt Go.RowKit Go.Deep
set_option linter.unusedVariables false

theorem pow_listedscr : (Rows.fnSecretRow.laid.filter fun x => x.1 == "internal/strconv.uint64pow10") = [("internal/strconv.uint64pow10", Rows.laid_internal_strconv_uint64pow10)] := by kernel_rfl
theorem all_of_laidscr {W : World} (h : laidMetH Tryd.prog Rows.fnSecretRow.laid W) : Pow W := by
  have h1 := laidMetH.filter (fun x => x.1 == "internal/strconv.uint64pow10") h
  rw [pow_listedscr] at h1
  exact pow_of_one h1

set_option maxRecDepth 100000 in
theorem contractscr (H : Type) (enc : TypeId × Value → H) (W : World) (base : Nat) (args : Array Value) (ds gs : List (DataW H)) (before : List MemPlace)
    (hval : ∀ (j : Nat) t v, Tryd.f7.params[j]? = some t → args[j]? = some v → Value.okWide Tryd.prog W .any base t v)
    (hW : DataW.Whole enc Tryd.prog Tryd.f7.params.toList Rows.fnSecretSpec.vars false W args.toList ds gs before) (hT : Pow W) :
    Calls Tryd.prog 7 args W fun e W' => ∃ v, e = .returned v ∧ Rows.fnSecretSpec.post enc Tryd.prog Tryd.f7 false true false false W args v W' := by
  have hW' := hW
  obtain ⟨p, q, hA0, hV0, rfl, hfz, hnd⟩ := hW
  have hA : DataW.TrodAll enc Tryd.prog W 0 (fun _ => true) true Tryd.f7.params.toList args.toList ds p := hA0
  rw [Tryd.params7] at hA hval
  obtain ⟨v0, vs0, d0, ds0, p0, q0, hargs, rfl, rfl, h0, r0⟩ := trodAll_cons hA
  obtain ⟨rfl, rfl, rfl⟩ := trodAll_nil r0
  obtain rfl : args = #[v0] := by cases args; simp_all
  obtain ⟨rfl, rfl⟩ := trodVars_none hV0
  obtain ⟨a0, len0, cap0, rfl⟩ := okWide_slice Tryd.underlying39 (hval 0 39 v0 rfl rfl)
  have k0 := h0
  have lt0 : ∀ x ∈ p0, x.block < W.heap.size := by obtain ⟨m, hm⟩ := k0; exact DataW.trod_lt m _ _ _ hm
  obtain ⟨Z0, hI0⟩ : ∃ Z, IsU8 W a0 len0 cap0 Z := by
    obtain ⟨fuel, hf⟩ := h0
    obtain ⟨a, len, cap, Z, e, hI⟩ := open_u8 (by simpa [Value.cells] using hf)
    simp at e
    obtain ⟨rfl, rfl, rfl⟩ := e
    exact ⟨Z, hI⟩
  clear hA0
  refine (secret_walk  W hI0 hT).mono fun e W' ⟨he, bel⟩ => ?_
  subst he
  exact ⟨_, rfl, _, _, _, [], _, [], hW', trodAll_mk1 (shut_bool Tryd.underlying4 _), (trodAll_cons_mk (Below.trod laidOutN (by kernel_rfl) (of_decide_eq_true (by kernel_rfl)) k0 bel lt0) trodAll_mk0), rfl, bel.frame _, fun h => by cases h⟩

theorem laid_metscr (os : Os) : laidMet Tryd.prog Rows.fnSecretRow.laid ((World.laidAll Tryd.prog os Rows.fnSecretRow.laid).forCall (fun _ _ => 0) ⟨#[], #[.slice none 0 0], []⟩).memory :=
  laidMet_laidAll _ (by kernel_rfl) (by kernel_rfl)
theorem readsscr (os : Os) {H : Type} (enc : TypeId × Value → H) : ∃ ds places, DataW.whole enc Tryd.prog ((World.laidAll Tryd.prog os Rows.fnSecretRow.laid).forCall (fun _ _ => 0) ⟨#[], #[.slice none 0 0], []⟩).memory Tryd.f7.params.toList Rows.fnSecretSpec.vars false #[(.slice none 0 0 : Value)].toList 8 = some (ds, [], places) :=
  ⟨[.nil], [], by kernel_rfl⟩

set_option maxRecDepth 100000 in
theorem liftedscr (os : Os) (started : os.Started) (H : Type) (enc : TypeId × Value → H) (F : Stop.Interp) :
    ReturnsInHanded {} Tryd.checked os 7 .any ((OpenSpec.ofChange Rows.fnSecretSpec).preRow enc Tryd.prog Tryd.f7 Rows.fnSecretRow.domain false Rows.fnSecretRow.laid) (((OpenSpec.ofChange Rows.fnSecretSpec).at F).post enc Tryd.prog Tryd.f7 false true false false) := by
  obtain ⟨dz, places, hx⟩ := readsscr os enc
  refine returnsInHanded_of_row (C := Tryd.checked) (s := OpenSpec.ofChange Rows.fnSecretSpec) ownN started (by kernel_rfl) Tryd.func7
    (witness_row_at (enc := enc) (C := Tryd.checked) false (World.laidAll Tryd.prog os Rows.fnSecretRow.laid) #[.slice none 0 0] (World.laidAll_os _ _ _) (by kernel_rfl) (by kernel_rfl) (by kernel_rfl)
      (OpenSpec.preRow_of_cond 8 hx (by kernel_rfl) (fun k hk => by cases hk) (by kernel_rfl) (laid_metscr os))) ?_
  intro W base args ds gs before hval hW _ _ _ hL _ _
  exact contractscr H enc W base args ds gs before hval hW (all_of_laidscr hL)

theorem andBscr {a b : Bool} (h : a = true) (k : b = true) : (a && b) = true := by rw [h, k]; rfl
theorem unfscr : (Rows.fnSecretRow.unfollowed == Tryd.pinned.checked.prog.unfollowed 7) = true := by kernel_rfl
theorem recscr : (Rows.fnSecretRow.recurses == Tryd.pinned.checked.prog.recurses 7) = true := by kernel_rfl
theorem namscr : (Rows.fnSecretRow.named == Tryd.pinned.checked.prog.varsNamed 7) = true := by kernel_rfl
theorem inpscr : (Rows.fnSecretRow.inPlace == Tryd.pinned.checked.prog.inPlace 7) = true := by kernel_rfl
set_option maxRecDepth 100000 in
set_option maxHeartbeats 8000000 in
theorem closedscr : joinedFacts Tryd.pinned.checked.prog 7 Tryd.f7 (OpenSpec.ofChange Rows.fnSecretSpec).bare Rows.fnSecretRow = true := by
  unfold joinedFacts
  repeat' with_reducible refine andBscr ?_ ?_
  all_goals (first | with_reducible exact unfscr | with_reducible exact recscr | with_reducible exact namscr | with_reducible exact inpscr | (as_aux_lemma => kernel_rfl))
theorem wrapscr : Tryd.f7.isWrapper Tryd.prog Rows.fnSecretRow.wrapper Rows.fnSecretRow.mainSum := by unfold Func.isWrapper; first | (rw [if_pos (by decide +kernel)]; kernel_rfl) | (rw [if_neg (by decide +kernel)]; exact ⟨rfl, rfl⟩)
theorem instscr : Tryd.f7.isInstance Tryd.prog Rows.fnSecretRow.origin Rows.fnSecretRow.targs := of_decide_eq_true (by kernel_rfl)

theorem saidscr : Rows.FnSecretSaid :=
  OpenClaim.holds_of_cond 7 Tryd.f7 rfl rfl rfl rfl rfl rfl rfl ⟨rfl, rfl, rfl, rfl, rfl⟩ rfl rfl rfl rfl rfl (by kernel_rfl) Tryd.func7 closedscr
    instscr wrapscr
    (fun os started H enc _ F => by rw [OpenClaim.pre_eq_preRow]; exact liftedscr os started H enc F)

theorem plainscr (f : FuncId) (fn : Func) (hf : Tryd.pinned.checked.prog.funcNamed Rows.fnSecretRow.func = some f) (hfn : Tryd.pinned.checked.prog.funcs[f]? = some fn) :
    true = Tryd.pinned.checked.prog.looks [] ∧ ∀ (j : Nat) t, fn.params[j]? = some t → Tryd.pinned.checked.prog.wantsStandIn t = false := by
  obtain rfl : f = 7 := Option.some.inj ((show Tryd.prog.funcNamed Rows.fnSecretRow.func = some 7 by kernel_rfl).symm.trans hf) |>.symm
  obtain rfl : fn = Tryd.f7 := (Option.some.inj (Tryd.func7.symm.trans hfn)).symm
  refine ⟨by kernel_rfl, fun j t ht => ?_⟩
  rw [Tryd.params7] at ht
  obtain rfl : t = 39 := by simpa using Array.mem_of_getElem? ht
  exact (show Tryd.prog.wantsStandIn 39 = false by kernel_rfl)

/-- THE CARD -/
theorem cardscr : Rows.FnSecretCardSaid :=
  Claim7.holds_tied_plain_at .later [] _ _ _ _ saidscr (fun _ h => by cases h) (by kernel_rfl) (fun _ h => by cases h) fnSecret_row_tie rfl ⟨rfl, rfl⟩ (by kernel_rfl) rfl plainscr (by kernel_rfl)
#print axioms cardscr
end Go.Proofs.YtpcbhjejpebogaaDoor
