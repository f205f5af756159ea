/-
  The card FnExactReadersOfCardSaid: at every slice of epochs and every box the law returns true, and its arguments and the variable errNoBox read afterwards as before. Conditions: the row's own (the variables that it lists start as they are laid).
-/
import Derived.Test.YtcolcnkjcagbaaaDoorBxPd
namespace Go.Proofs.YtcolcnkjcagbaaaDoor
open Go.ChangeShapes Go.WideShapes Go.ChangeAt Go.RowKit Go.Deep
set_option linter.unusedVariables false

theorem et_listedxrd : (Rows.fnExactReadersOfRow.laid.filter fun x => x.1 == "errors.errorType") = [("errors.errorType", Rows.laid_errors_errorType)] := by kernel_rfl
theorem nb_listedxrd : (Rows.fnExactReadersOfRow.laid.filter fun x => x.1 == "loop.example/g00318/impl.errNoBox") = [("loop.example/g00318/impl.errNoBox", Rows.laid_loop_example_g00318_impl_errNoBox)] := by kernel_rfl

set_option maxRecDepth 100000 in
theorem contractxrd (H : Type) (enc : TypeId × Value → H) (W : World) (base : Nat) (args : Array Value) (ds gs : List (DataW H)) (before : List MemPlace)
    (hval : ∀ (j : Nat) t v, Tryd.f5.params[j]? = some t → args[j]? = some v → Value.okWide Tryd.prog W .any base t v)
    (hW : DataW.Whole enc Tryd.prog Tryd.f5.params.toList Rows.fnExactReadersOfSpec.vars false W args.toList ds gs before) (hE : W.cell? ⟨1, 0, none⟩ = some (.iface 115 (.agg #[.pointer (some ⟨6, 48, none⟩)]))) (hN : ∃ (a : Addr), W.var? Tryd.prog "loop.example/g00318/impl.errNoBox" = some #[.iface 133 (.pointer (some a))]) :
    Calls Tryd.prog 5 args W fun e W' => ∃ v, e = .returned v ∧ Rows.fnExactReadersOfSpec.post enc Tryd.prog Tryd.f5 false true false false W args v W' := by
  have hW' := hW
  obtain ⟨p, q, hA0, hV0, rfl, hfz, hnd⟩ := hW
  have hA : DataW.TrodAll enc Tryd.prog W 0 (fun _ => true) true Tryd.f5.params.toList args.toList ds p := hA0
  have hV : DataW.TrodVars enc Tryd.prog W (fun _ => true) ["loop.example/g00318/impl.errNoBox"] gs q := hV0
  rw [Tryd.params5] at hA hval
  obtain ⟨v0, vs0, d0, ds0, p0, q0, hargs, rfl, rfl, h0, r0⟩ := trodAll_cons hA
  obtain ⟨v2, vs2, d2, ds2, p2, q2, rfl, rfl, rfl, h2, r2⟩ := trodAll_cons r0
  obtain ⟨rfl, rfl, rfl⟩ := trodAll_nil r2
  obtain rfl : args = #[v0, v2] := by cases args; simp_all
  obtain ⟨b0, hv9⟩ := hN
  have vr : ∀ {X : World}, X.var? Tryd.prog "loop.example/g00318/impl.errNoBox" = some #[.iface 133 (.pointer (some b0))] → ∀ sp : Nat → Bool,
      DataW.TrodVars enc Tryd.prog X sp ["loop.example/g00318/impl.errNoBox"] [tok enc (.iface 133 (.pointer (some b0)))] [.cell 0 0] :=
    fun x0 sp => vars_read1 enc gE gEType Tryd.underlying48 x0 trivial sp
  obtain ⟨rfl, rfl⟩ := hV.unique (vr hv9 _)
  obtain ⟨a0, len0, cap0, rfl⟩ := okWide_slice Tryd.underlying29 (hval 0 29 v0 rfl rfl)
  have k0 := h0
  have lt0 : ∀ x ∈ p0, x.block < W.heap.size := by obtain ⟨m, hm⟩ := k0; exact DataW.trod_lt m _ _ _ hm
  obtain ⟨cs2, rfl, _⟩ := okWide_struct Tryd.underlying23 (hval 1 23 v2 rfl rfl)
  have k2 := h2
  have lt2 : ∀ x ∈ p2, x.block < W.heap.size := by obtain ⟨m, hm⟩ := k2; exact DataW.trod_lt m _ _ _ hm
  obtain ⟨a0', n0, c0, D0, hv0, hI0, hF0⟩ : ∃ a len cap D, Value.slice a0 len0 cap0 = .slice a len cap ∧ IsEps W a len cap D ∧ EFine D len := by
    obtain ⟨fuel, hf⟩ := h0
    exact open_epsK (by simpa [Value.cells] using hf)
  obtain ⟨key, s, rfl, hk1, hk2, hs9⟩ : ∃ key s, cs2 = #[.int .i64 key, .string s] ∧ -9223372036854775808 ≤ key ∧ key ≤ 9223372036854775807 ∧ s.size ≤ 9223372036854775807 := by
    obtain ⟨fuel, hf⟩ := h2
    exact open_box (by simpa [Value.cells] using hf)
  have hg0 : W.cell? ⟨0, 0, none⟩ = some (.iface 133 (.pointer (some b0))) := by simpa using World.var?_cell gE hv9 0
  have hb1 : 1 < W.heap.size := cell_lt hE
  rw [hv0]
  clear hA0 hV0
  refine (readers_walk a0' n0 c0 D0 key s b0 W hI0 hF0 hk1 hk2 hs9 hg0 hE hb1).mono fun e W' ⟨he, bel⟩ => ?_
  rw [← hv0]
  subst he
  exact ⟨_, rfl, _, _, _, [], _, _, hW', trodAll_mk1 (shut_bool Tryd.underlying4 _), (trodAll_cons_mk (Below.trod laidOutN (by kernel_rfl) (of_decide_eq_true (by kernel_rfl)) k0 bel lt0) (trodAll_cons_mk (Below.trod laidOutN (by kernel_rfl) (of_decide_eq_true (by kernel_rfl)) k2 bel lt2) trodAll_mk0)), vr (errVar_below hv9 (Nat.lt_of_lt_of_le Nat.zero_lt_one (Nat.le_of_lt hb1)) bel) _, bel.frame _, fun h => by cases h⟩

theorem laid_metxrd (os : Os) : laidMetH Tryd.prog Rows.fnExactReadersOfRow.laid (((({ World.holding Tryd.prog os ⟨#[], #[], []⟩ with heap := (World.holding Tryd.prog os ⟨#[], #[], []⟩).heap.modify 1 fun | .cells _ t frozen => .cells #[.iface 115 (.agg #[.pointer (some ⟨6, 48, none⟩)])] t frozen | o => o } : World)).layVars Tryd.prog laidP).forCall (fun _ _ => 0) ⟨#[], #[.slice none 0 0, .agg #[.int .i64 0, .string ⟨#[]⟩]], []⟩).memory :=
  laid_full os _ (by kernel_rfl)
theorem readsxrd (os : Os) {H : Type} (enc : TypeId × Value → H) : ∃ ds gs places, DataW.whole enc Tryd.prog (((({ World.holding Tryd.prog os ⟨#[], #[], []⟩ with heap := (World.holding Tryd.prog os ⟨#[], #[], []⟩).heap.modify 1 fun | .cells _ t frozen => .cells #[.iface 115 (.agg #[.pointer (some ⟨6, 48, none⟩)])] t frozen | o => o } : World)).layVars Tryd.prog laidP).forCall (fun _ _ => 0) ⟨#[], #[.slice none 0 0, .agg #[.int .i64 0, .string ⟨#[]⟩]], []⟩).memory Tryd.f5.params.toList Rows.fnExactReadersOfSpec.vars false #[(.slice none 0 0 : Value), .agg #[.int .i64 0, .string ⟨#[]⟩]].toList 8 = some (ds, gs, places) :=
  ⟨[.nil, .agg [.lit (.int .i64 0), .lit (.string [])]], [tok enc (.iface 133 (.pointer (some ⟨11, 0, none⟩)))], [.cell 0 0], by kernel_rfl⟩

set_option maxRecDepth 100000 in
theorem liftedxrd (os : Os) (started : os.Started) (H : Type) (enc : TypeId × Value → H) (F : Stop.Interp) :
    ReturnsInHanded {} Tryd.checked os 5 .any ((OpenSpec.ofChange Rows.fnExactReadersOfSpec).preRow enc Tryd.prog Tryd.f5 Rows.fnExactReadersOfRow.domain false Rows.fnExactReadersOfRow.laid) (((OpenSpec.ofChange Rows.fnExactReadersOfSpec).at F).post enc Tryd.prog Tryd.f5 false true false false) := by
  obtain ⟨dz, gz, places, hx⟩ := readsxrd os enc
  refine returnsInHanded_of_row (C := Tryd.checked) (s := OpenSpec.ofChange Rows.fnExactReadersOfSpec) ownN started (by kernel_rfl) Tryd.func5
    (witness_row_at (enc := enc) (C := Tryd.checked) false ((({ World.holding Tryd.prog os ⟨#[], #[], []⟩ with heap := (World.holding Tryd.prog os ⟨#[], #[], []⟩).heap.modify 1 fun | .cells _ t frozen => .cells #[.iface 115 (.agg #[.pointer (some ⟨6, 48, none⟩)])] t frozen | o => o } : World)).layVars Tryd.prog laidP) #[.slice none 0 0, .agg #[.int .i64 0, .string ⟨#[]⟩]] (laidW_os _) (by kernel_rfl) (by kernel_rfl) (by kernel_rfl)
      (OpenSpec.preRow_of_cond 8 hx (by kernel_rfl) (fun k hk => by cases hk) (by kernel_rfl) (laid_metxrd os))) ?_
  intro W base args ds gs before hval hW _ _ _ hL _ _
  exact contractxrd H enc W base args ds gs before hval hW (by
    have h1 := laidMetH.filter (fun x => x.1 == "errors.errorType") hL
    rw [et_listedxrd] at h1
    exact errorType_of h1) (by
    have h1 := laidMetH.filter (fun x => x.1 == "loop.example/g00318/impl.errNoBox") hL
    rw [nb_listedxrd] at h1
    exact errNoBox_of h1)

theorem andBxrd {a b : Bool} (h : a = true) (k : b = true) : (a && b) = true := by rw [h, k]; rfl
theorem unfxrd : (Rows.fnExactReadersOfRow.unfollowed == Tryd.pinned.checked.prog.unfollowed 5) = true := by kernel_rfl
theorem recxrd : (Rows.fnExactReadersOfRow.recurses == Tryd.pinned.checked.prog.recurses 5) = true := by kernel_rfl
theorem namxrd : (Rows.fnExactReadersOfRow.named == Tryd.pinned.checked.prog.varsNamed 5) = true := by kernel_rfl
theorem inpxrd : (Rows.fnExactReadersOfRow.inPlace == Tryd.pinned.checked.prog.inPlace 5) = true := by kernel_rfl
set_option maxRecDepth 100000 in
set_option maxHeartbeats 8000000 in
theorem closedxrd : joinedFacts Tryd.pinned.checked.prog 5 Tryd.f5 (OpenSpec.ofChange Rows.fnExactReadersOfSpec).bare Rows.fnExactReadersOfRow = true := by
  unfold joinedFacts
  repeat' with_reducible refine andBxrd ?_ ?_
  all_goals (first | with_reducible exact unfxrd | with_reducible exact recxrd | with_reducible exact namxrd | with_reducible exact inpxrd | (as_aux_lemma => kernel_rfl))
theorem wrapxrd : Tryd.f5.isWrapper Tryd.prog Rows.fnExactReadersOfRow.wrapper Rows.fnExactReadersOfRow.mainSum := by unfold Func.isWrapper; first | (rw [if_pos (by decide +kernel)]; kernel_rfl) | (rw [if_neg (by decide +kernel)]; exact ⟨rfl, rfl⟩)
theorem instxrd : Tryd.f5.isInstance Tryd.prog Rows.fnExactReadersOfRow.origin Rows.fnExactReadersOfRow.targs := of_decide_eq_true (by kernel_rfl)

theorem saidxrd : Rows.FnExactReadersOfSaid :=
  OpenClaim.holds_of_cond 5 Tryd.f5 rfl rfl rfl rfl rfl rfl rfl ⟨rfl, rfl, rfl, rfl, rfl⟩ rfl rfl rfl rfl rfl (by kernel_rfl) Tryd.func5 closedxrd
    instxrd wrapxrd
    (fun os started H enc _ F => by rw [OpenClaim.pre_eq_preRow]; exact liftedxrd os started H enc F)

theorem plainxrd (f : FuncId) (fn : Func) (hf : Tryd.pinned.checked.prog.funcNamed Rows.fnExactReadersOfRow.func = some f) (hfn : Tryd.pinned.checked.prog.funcs[f]? = some fn) :
    true = Tryd.pinned.checked.prog.looks [] ∧ ∀ (j : Nat) t, fn.params[j]? = some t → Tryd.pinned.checked.prog.wantsStandIn t = false := by
  obtain rfl : f = 5 := Option.some.inj ((show Tryd.prog.funcNamed Rows.fnExactReadersOfRow.func = some 5 by kernel_rfl).symm.trans hf) |>.symm
  obtain rfl : fn = Tryd.f5 := (Option.some.inj (Tryd.func5.symm.trans hfn)).symm
  refine ⟨by kernel_rfl, fun j t ht => ?_⟩
  rw [Tryd.params5] at ht
  have hm : t = 29 ∨ t = 23 := by simpa using Array.mem_of_getElem? ht
  rcases hm with rfl | rfl
  · exact (show Tryd.prog.wantsStandIn 29 = false by kernel_rfl)
  · exact (show Tryd.prog.wantsStandIn 23 = false by kernel_rfl)

/-- THE CARD -/
theorem cardxrd : Rows.FnExactReadersOfCardSaid :=
  Claim7.holds_tied_plain_at .later [] _ _ _ _ saidxrd (fun _ h => by cases h) (by kernel_rfl) (fun _ h => by cases h) fnExactReadersOf_row_tie rfl ⟨rfl, rfl⟩ (by kernel_rfl) rfl plainxrd (by kernel_rfl)
#print axioms cardxrd
end Go.Proofs.YtcolcnkjcagbaaaDoor
