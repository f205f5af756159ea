/-
  The card FnExactOpenBoxCardSaid: at every slice of epochs, every slice of texts and every box the law returns true, and its arguments and the variable errNoBox read afterwards as before. Conditions: the row's own (the variables that it lists start as they are laid).
-/
import Derived.Test.YtcolcnkjcagbaaaGreatDoorBuW
namespace Go.Proofs.YtcolcnkjcagbaaaGreatDoor
open Go.ChangeShapes Go.WideShapes Go.ChangeAt Go.RowKit Go.Deep
set_option linter.unusedVariables false

theorem pow_listedxob : (Rows.fnExactOpenBoxRow.laid.filter fun x => x.1 == "internal/strconv.uint64pow10") = [("internal/strconv.uint64pow10", Rows.laid_internal_strconv_uint64pow10)] := by kernel_rfl
theorem all_of_laidxob {W : World} (h : laidMetH Tryz.prog Rows.fnExactOpenBoxRow.laid W) : Pow W := by
  have h1 := laidMetH.filter (fun x => x.1 == "internal/strconv.uint64pow10") h
  rw [pow_listedxob] at h1
  exact pow_of_one h1
theorem et_listedxob : (Rows.fnExactOpenBoxRow.laid.filter fun x => x.1 == "errors.errorType") = [("errors.errorType", Rows.laid_errors_errorType)] := by kernel_rfl
theorem nb_listedxob : (Rows.fnExactOpenBoxRow.laid.filter fun x => x.1 == "loop.example/g00318/impl.errNoBox") = [("loop.example/g00318/impl.errNoBox", Rows.laid_loop_example_g00318_impl_errNoBox)] := by kernel_rfl

set_option maxRecDepth 100000 in
theorem contractxob (H : Type) (enc : TypeId × Value → H) (W : World) (base : Nat) (args : Array Value) (ds gs : List (DataW H)) (before : List MemPlace)
    (hval : ∀ (j : Nat) t v, Tryz.f3.params[j]? = some t → args[j]? = some v → Value.okWide Tryz.prog W .any base t v)
    (hW : DataW.Whole enc Tryz.prog Tryz.f3.params.toList Rows.fnExactOpenBoxSpec.vars false W args.toList ds gs before) (hT : Pow W) (hE : W.cell? ⟨1, 0, none⟩ = some (.iface 170 (.agg #[.pointer (some ⟨6, 65, none⟩)]))) (hN : ∃ (a : Addr), W.var? Tryz.prog "loop.example/g00318/impl.errNoBox" = some #[.iface 216 (.pointer (some a))]) :
    Calls Tryz.prog 3 args W fun e W' => ∃ v, e = .returned v ∧ Rows.fnExactOpenBoxSpec.post enc Tryz.prog Tryz.f3 false true false false W args v W' := by
  have hW' := hW
  obtain ⟨p, q, hA0, hV0, rfl, hfz, hnd⟩ := hW
  have hA : DataW.TrodAll enc Tryz.prog W 0 (fun _ => true) true Tryz.f3.params.toList args.toList ds p := hA0
  have hV : DataW.TrodVars enc Tryz.prog W (fun _ => true) ["loop.example/g00318/impl.errNoBox"] gs q := hV0
  rw [Tryz.params3] at hA hval
  obtain ⟨v0, vs0, d0, ds0, p0, q0, hargs, rfl, rfl, h0, r0⟩ := trodAll_cons hA
  obtain ⟨v1, vs1, d1, ds1, p1, q1, rfl, rfl, rfl, h1, r1⟩ := trodAll_cons r0
  obtain ⟨v2, vs2, d2, ds2, p2, q2, rfl, rfl, rfl, h2, r2⟩ := trodAll_cons r1
  obtain ⟨rfl, rfl, rfl⟩ := trodAll_nil r2
  obtain rfl : args = #[v0, v1, v2] := by cases args; simp_all
  obtain ⟨b0, hv9⟩ := hN
  have vr : ∀ {X : World}, X.var? Tryz.prog "loop.example/g00318/impl.errNoBox" = some #[.iface 216 (.pointer (some b0))] → ∀ sp : Nat → Bool,
      DataW.TrodVars enc Tryz.prog X sp ["loop.example/g00318/impl.errNoBox"] [tok enc (.iface 216 (.pointer (some b0)))] [.cell 0 0] :=
    fun x0 sp => vars_read1 enc gE gEType Tryz.underlying65 x0 trivial sp
  obtain ⟨rfl, rfl⟩ := hV.unique (vr hv9 _)
  obtain ⟨a0, len0, cap0, rfl⟩ := okWide_slice Tryz.underlying22 (hval 0 22 v0 rfl rfl)
  have k0 := h0
  have lt0 : ∀ x ∈ p0, x.block < W.heap.size := by obtain ⟨m, hm⟩ := k0; exact DataW.trod_lt m _ _ _ hm
  obtain ⟨a1, len1, cap1, rfl⟩ := okWide_slice Tryz.underlying23 (hval 1 23 v1 rfl rfl)
  have k1 := h1
  have lt1 : ∀ x ∈ p1, x.block < W.heap.size := by obtain ⟨m, hm⟩ := k1; exact DataW.trod_lt m _ _ _ hm
  obtain ⟨cs2, rfl, _⟩ := okWide_struct Tryz.underlying25 (hval 2 25 v2 rfl rfl)
  have k2 := h2
  have lt2 : ∀ x ∈ p2, x.block < W.heap.size := by obtain ⟨m, hm⟩ := k2; exact DataW.trod_lt m _ _ _ hm
  obtain ⟨a0', n0, c0, D0, hv0, hI0, hF0⟩ : ∃ a len cap D, Value.slice a0 len0 cap0 = .slice a len cap ∧ IsEps W a len cap D ∧ EFine D len := by
    obtain ⟨fuel, hf⟩ := h0
    exact open_epsK (by simpa [Value.cells] using hf)
  obtain ⟨a1', n1, c1, D1, hv1, hI1, hF1⟩ : ∃ u m uc S, Value.slice a1 len1 cap1 = .slice u m uc ∧ IsStrs W u m uc S ∧ ∀ i, i < m → (S i).size ≤ 9223372036854775807 := by
    obtain ⟨fuel, hf⟩ := h1
    exact open_strs (by simpa [Value.cells] using hf)
  obtain ⟨key, s, rfl, hk1, hk2, hs9⟩ : ∃ key s, cs2 = #[.int .i64 key, .string s] ∧ -9223372036854775808 ≤ key ∧ key ≤ 9223372036854775807 ∧ s.size ≤ 9223372036854775807 := by
    obtain ⟨fuel, hf⟩ := h2
    exact open_box (by simpa [Value.cells] using hf)
  have hg0 : W.cell? ⟨0, 0, none⟩ = some (.iface 216 (.pointer (some b0))) := by simpa using World.var?_cell gE hv9 0
  have hb1 : 1 < W.heap.size := cell_lt hE
  rw [hv0, hv1]
  clear hA0 hV0
  refine (openBox_walk a0' n0 c0 D0 a1' n1 c1 D1 key s b0 W hI0 hF0 hI1 hF1 hk1 hk2 hs9 hT hg0 hE hb1).mono fun e W' ⟨he, bel⟩ => ?_
  rw [← hv0, ← hv1]
  subst he
  exact ⟨_, rfl, _, _, _, [], _, _, hW', trodAll_mk1 (shut_bool Tryz.underlying4 _), (trodAll_cons_mk (Below.trod laidOutN (by kernel_rfl) (of_decide_eq_true (by kernel_rfl)) k0 bel lt0) (trodAll_cons_mk (Below.trod laidOutN (by kernel_rfl) (of_decide_eq_true (by kernel_rfl)) k1 bel lt1) (trodAll_cons_mk (Below.trod laidOutN (by kernel_rfl) (of_decide_eq_true (by kernel_rfl)) k2 bel lt2) trodAll_mk0))), vr (errVar_below hv9 (Nat.lt_of_lt_of_le Nat.zero_lt_one (Nat.le_of_lt hb1)) bel) _, bel.frame _, fun h => by cases h⟩

theorem laid_metxob (os : Os) : laidMetH Tryz.prog Rows.fnExactOpenBoxRow.laid (((({ World.holding Tryz.prog os ⟨#[], #[], []⟩ with heap := (World.holding Tryz.prog os ⟨#[], #[], []⟩).heap.modify 1 fun | .cells _ t frozen => .cells #[.iface 170 (.agg #[.pointer (some ⟨6, 65, none⟩)])] t frozen | o => o } : World)).layVars Tryz.prog laidP).forCall (fun _ _ => 0) ⟨#[], #[.slice none 0 0, .slice none 0 0, .agg #[.int .i64 0, .string ⟨#[]⟩]], []⟩).memory :=
  laid_full os _ (by kernel_rfl)
theorem readsxob (os : Os) {H : Type} (enc : TypeId × Value → H) : ∃ ds gs places, DataW.whole enc Tryz.prog (((({ World.holding Tryz.prog os ⟨#[], #[], []⟩ with heap := (World.holding Tryz.prog os ⟨#[], #[], []⟩).heap.modify 1 fun | .cells _ t frozen => .cells #[.iface 170 (.agg #[.pointer (some ⟨6, 65, none⟩)])] t frozen | o => o } : World)).layVars Tryz.prog laidP).forCall (fun _ _ => 0) ⟨#[], #[.slice none 0 0, .slice none 0 0, .agg #[.int .i64 0, .string ⟨#[]⟩]], []⟩).memory Tryz.f3.params.toList Rows.fnExactOpenBoxSpec.vars false #[(.slice none 0 0 : Value), .slice none 0 0, .agg #[.int .i64 0, .string ⟨#[]⟩]].toList 8 = some (ds, gs, places) :=
  ⟨[.nil, .nil, .agg [.lit (.int .i64 0), .lit (.string [])]], [tok enc (.iface 216 (.pointer (some ⟨11, 0, none⟩)))], [.cell 0 0], by kernel_rfl⟩

set_option maxRecDepth 100000 in
theorem liftedxob (os : Os) (started : os.Started) (H : Type) (enc : TypeId × Value → H) (F : Stop.Interp) :
    ReturnsInHanded {} Tryz.checked os 3 .any ((OpenSpec.ofChange Rows.fnExactOpenBoxSpec).preRow enc Tryz.prog Tryz.f3 Rows.fnExactOpenBoxRow.domain false Rows.fnExactOpenBoxRow.laid) (((OpenSpec.ofChange Rows.fnExactOpenBoxSpec).at F).post enc Tryz.prog Tryz.f3 false true false false) := by
  obtain ⟨dz, gz, places, hx⟩ := readsxob os enc
  refine returnsInHanded_of_row (C := Tryz.checked) (s := OpenSpec.ofChange Rows.fnExactOpenBoxSpec) ownN started (by kernel_rfl) Tryz.func3
    (witness_row_at (enc := enc) (C := Tryz.checked) false ((({ World.holding Tryz.prog os ⟨#[], #[], []⟩ with heap := (World.holding Tryz.prog os ⟨#[], #[], []⟩).heap.modify 1 fun | .cells _ t frozen => .cells #[.iface 170 (.agg #[.pointer (some ⟨6, 65, none⟩)])] t frozen | o => o } : World)).layVars Tryz.prog laidP) #[.slice none 0 0, .slice none 0 0, .agg #[.int .i64 0, .string ⟨#[]⟩]] (laidW_os _) (by kernel_rfl) (by kernel_rfl) (by kernel_rfl)
      (OpenSpec.preRow_of_cond 8 hx (by kernel_rfl) (fun k hk => by cases hk) (by kernel_rfl) (laid_metxob os))) ?_
  intro W base args ds gs before hval hW _ _ _ hL _ _
  exact contractxob H enc W base args ds gs before hval hW (all_of_laidxob hL) (by
    have h1 := laidMetH.filter (fun x => x.1 == "errors.errorType") hL
    rw [et_listedxob] at h1
    exact errorType_of h1) (by
    have h1 := laidMetH.filter (fun x => x.1 == "loop.example/g00318/impl.errNoBox") hL
    rw [nb_listedxob] at h1
    exact errNoBox_of h1)

theorem andBxob {a b : Bool} (h : a = true) (k : b = true) : (a && b) = true := by rw [h, k]; rfl
theorem unfxob : (Rows.fnExactOpenBoxRow.unfollowed == Tryz.pinned.checked.prog.unfollowed 3) = true := by kernel_rfl
theorem recxob : (Rows.fnExactOpenBoxRow.recurses == Tryz.pinned.checked.prog.recurses 3) = true := by kernel_rfl
theorem namxob : (Rows.fnExactOpenBoxRow.named == Tryz.pinned.checked.prog.varsNamed 3) = true := by kernel_rfl
theorem inpxob : (Rows.fnExactOpenBoxRow.inPlace == Tryz.pinned.checked.prog.inPlace 3) = true := by kernel_rfl
set_option maxRecDepth 100000 in
set_option maxHeartbeats 8000000 in
theorem closedxob : joinedFacts Tryz.pinned.checked.prog 3 Tryz.f3 (OpenSpec.ofChange Rows.fnExactOpenBoxSpec).bare Rows.fnExactOpenBoxRow = true := by
  unfold joinedFacts
  repeat' with_reducible refine andBxob ?_ ?_
  all_goals (first | with_reducible exact unfxob | with_reducible exact recxob | with_reducible exact namxob | with_reducible exact inpxob | (as_aux_lemma => kernel_rfl))
theorem wrapxob : Tryz.f3.isWrapper Tryz.prog Rows.fnExactOpenBoxRow.wrapper Rows.fnExactOpenBoxRow.mainSum := by unfold Func.isWrapper; first | (rw [if_pos (by decide +kernel)]; kernel_rfl) | (rw [if_neg (by decide +kernel)]; exact ⟨rfl, rfl⟩)
theorem instxob : Tryz.f3.isInstance Tryz.prog Rows.fnExactOpenBoxRow.origin Rows.fnExactOpenBoxRow.targs := of_decide_eq_true (by kernel_rfl)

theorem saidxob : Rows.FnExactOpenBoxSaid :=
  OpenClaim.holds_of_cond 3 Tryz.f3 rfl rfl rfl rfl rfl rfl rfl ⟨rfl, rfl, rfl, rfl, rfl⟩ rfl rfl rfl rfl rfl (by kernel_rfl) Tryz.func3 closedxob
    instxob wrapxob
    (fun os started H enc _ F => by rw [OpenClaim.pre_eq_preRow]; exact liftedxob os started H enc F)

theorem plainxob (f : FuncId) (fn : Func) (hf : Tryz.pinned.checked.prog.funcNamed Rows.fnExactOpenBoxRow.func = some f) (hfn : Tryz.pinned.checked.prog.funcs[f]? = some fn) :
    true = Tryz.pinned.checked.prog.looks [] ∧ ∀ (j : Nat) t, fn.params[j]? = some t → Tryz.pinned.checked.prog.wantsStandIn t = false := by
  obtain rfl : f = 3 := Option.some.inj ((show Tryz.prog.funcNamed Rows.fnExactOpenBoxRow.func = some 3 by kernel_rfl).symm.trans hf) |>.symm
  obtain rfl : fn = Tryz.f3 := (Option.some.inj (Tryz.func3.symm.trans hfn)).symm
  refine ⟨by kernel_rfl, fun j t ht => ?_⟩
  rw [Tryz.params3] at ht
  have hm : t = 22 ∨ t = 23 ∨ t = 25 := by simpa using Array.mem_of_getElem? ht
  rcases hm with rfl | rfl | rfl
  · exact (show Tryz.prog.wantsStandIn 22 = false by kernel_rfl)
  · exact (show Tryz.prog.wantsStandIn 23 = false by kernel_rfl)
  · exact (show Tryz.prog.wantsStandIn 25 = false by kernel_rfl)

/-- THE CARD -/
theorem cardxob : Rows.FnExactOpenBoxCardSaid :=
  Claim7.holds_tied_plain_at .later [] _ _ _ _ saidxob (fun _ h => by cases h) (by kernel_rfl) (fun _ h => by cases h) fnExactOpenBox_row_tie rfl ⟨rfl, rfl⟩ (by kernel_rfl) rfl plainxob (by kernel_rfl)
#print axioms cardxob
end Go.Proofs.YtcolcnkjcagbaaaGreatDoor
