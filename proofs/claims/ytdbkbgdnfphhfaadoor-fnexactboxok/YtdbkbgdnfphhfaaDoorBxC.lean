/-
  The card FnExactBoxOkCardSaid: at every box the law returns true, and the box and the variable errNoBox read afterwards as before. Conditions: the row's own (the variables that it lists start as they are laid).
-/
import Derived.Test.YtdbkbgdnfphhfaaDoorBxL
import Derived.Test.YtdbkbgdnfphhfaaDoorRows
import Derived.Test.YtdbkbgdnfphhfaaDoorCards
import Derived.Test.YtdbkbgdnfphhfaaDoorTie
import Derived.ProofKit
import Derived.OpenShut
import Derived.Deep.DeepHandedRow
import Derived.Lay
import Derived.ShutString
import Derived.ChangeOld
import Derived.Stop.LaidErr
import Derived.LaidHandle
import Derived.LaidSub
import Derived.MakeChecks
namespace Go.Proofs.YtdbkbgdnfphhfaaDoor
open Go.ChangeShapes Go.WideShapes Go.ChangeAt Go.RowKit Go.Deep
set_option linter.unusedVariables false

theorem ownN : ownKnob Tryd.prog.godebug = none := by kernel_rfl
theorem laidOutN : laidOutB Tryd.prog = true := by kernel_rfl
theorem bCells9 : Tryd.prog.cellsOf 9 = 1 := by kernel_rfl
theorem bCells2 : Tryd.prog.cellsOf 2 = 1 := by kernel_rfl
theorem bCells23 : Tryd.prog.cellsOf 23 = 2 := by kernel_rfl
theorem bCells150 : Tryd.prog.cellsOf 150 = 1 := by kernel_rfl
theorem gE : Tryd.prog.globalNamed "loop.example/g00318/impl.errNoBox" = some 0 := by kernel_rfl
theorem gEType : (Tryd.prog.globals[0]?).map (·.type) = some 44 := by kernel_rfl
theorem bStar : "*" ++ "errors.errorString" = "*errors.errorString" := by decide
theorem bRow127 (u : TypeId) (h : Tryd.prog.typeName? 3 u = some "*errors.errorString") : u = 127 :=
  typeName_ptr_named (nm := "errors.errorString") (by rw [bStar]; kernel_rfl) (by kernel_rfl) (by decide) u (by rw [bStar]; exact h)
theorem err_listed : (Rows.fnExactBoxOkRow.laid.filter fun x => x.1 == "loop.example/g00318/impl.errNoBox") = [("loop.example/g00318/impl.errNoBox", Rows.laid_loop_example_g00318_impl_errNoBox)] := by kernel_rfl
theorem two_of {α : Type} {l : List α} (h : l.length = 2) : ∃ a b, l = [a, b] := by
  match l, h with
  | [a, b], _ => exact ⟨a, b, rfl⟩
theorem open_box {H : Type} {enc : TypeId × Value → H} {W : World} {n : Nat} {cs : Array Value} {x : DataW H × List MemPlace} (h : DataW.trod enc Tryd.prog W 0 (fun _ => true) true n 23 cs.toList = some x) :
    ∃ key s, cs = #[.int .i64 key, .string s] ∧ -9223372036854775808 ≤ key ∧ key ≤ 9223372036854775807 ∧ s.size ≤ 9223372036854775807 := by
  obtain ⟨xs, m, _, _, hl, hxl, hf⟩ := DataW.trod_struct Tryd.underlying23 h
  rw [bCells23] at hl
  obtain ⟨u0, u1, hcs⟩ := two_of hl
  obtain ⟨y0, y1, rfl⟩ := two_of (show xs.length = 2 from hxl)
  have g0 := hf 0 _ rfl
  have g1 := hf 1 _ rfl
  rw [hcs] at g0 g1
  simp [bCells2, bCells9] at g0 g1
  obtain ⟨z0, q0, _, w0⟩ := DataW.trod_int Tryd.underlying2 g0
  obtain ⟨s1, q1, _, l1⟩ := DataW.trod_string Tryd.underlying9 g1
  simp at q0 q1
  subst q0 q1
  have hr : -9223372036854775808 ≤ z0 ∧ z0 ≤ 9223372036854775807 := by
    simp [Lit.wf] at w0
    exact ⟨w0.1, w0.2⟩
  exact ⟨z0, s1, Array.ext' (by rw [hcs]), hr.1, hr.2, by unfold maxLen at l1; omega⟩
theorem errVar_below {W W' : World} {x : Value} (h : W.var? Tryd.prog "loop.example/g00318/impl.errNoBox" = some #[x]) (h0 : 0 < W.heap.size) (hB : Go.RowKit.Below W.heap.size W W') : W'.var? Tryd.prog "loop.example/g00318/impl.errNoBox" = some #[x] := by
  unfold World.var? at h ⊢
  rw [gE] at h ⊢
  simp only [Option.bind_some] at h ⊢
  rw [hB.block 0 h0]
  exact h

set_option maxRecDepth 100000 in
theorem contractX (H : Type) (enc : TypeId × Value → H) (W : World) (base : Nat) (args : Array Value) (ds gs : List (DataW H)) (before : List MemPlace)
    (hval : ∀ (j : Nat) t v, Tryd.f3.params[j]? = some t → args[j]? = some v → Value.okWide Tryd.prog W .any base t v)
    (hW : DataW.Whole enc Tryd.prog Tryd.f3.params.toList Rows.fnExactBoxOkSpec.vars false W args.toList ds gs before) (hL : laidMet Tryd.prog [("loop.example/g00318/impl.errNoBox", Rows.laid_loop_example_g00318_impl_errNoBox)] W) :
    Calls Tryd.prog 3 args W fun e W' => ∃ v, e = .returned v ∧ Rows.fnExactBoxOkSpec.post enc Tryd.prog Tryd.f3 false true false false W args v W' := by
  have hW' := hW
  obtain ⟨p, q, hA0, hV0, rfl, hfz, hnd⟩ := hW
  have hA : DataW.TrodAll enc Tryd.prog W 0 (fun _ => true) true Tryd.f3.params.toList args.toList ds p := hA0
  have hV : DataW.TrodVars enc Tryd.prog W (fun _ => true) ["loop.example/g00318/impl.errNoBox"] gs q := hV0
  rw [Tryd.params3] at hA hval
  obtain ⟨v0, vs0, d0, ds0, p0, q0, hargs, rfl, rfl, h0, r0⟩ := trodAll_cons hA
  obtain ⟨rfl, rfl, rfl⟩ := trodAll_nil r0
  obtain rfl : args = #[v0] := by cases args; simp_all
  obtain ⟨a0, s0, hv0, hc0, hs0, hz0⟩ := laid_sentinel hL gE gEType Tryd.underlying44 bRow127 Tryd.underlying127 Tryd.underlying150 rfl rfl Tryd.underlying9 bCells150 bCells9
  have vr : ∀ {X : World}, X.var? Tryd.prog "loop.example/g00318/impl.errNoBox" = some #[.iface 127 (.pointer (some a0))] → ∀ sp : Nat → Bool,
      DataW.TrodVars enc Tryd.prog X sp ["loop.example/g00318/impl.errNoBox"] [tok enc (.iface 127 (.pointer (some a0)))] [.cell 0 0] :=
    fun x0 sp => vars_read1 enc gE gEType Tryd.underlying44 x0 trivial sp
  obtain ⟨rfl, rfl⟩ := hV.unique (vr hv0 _)
  obtain ⟨cs, rfl, _⟩ := okWide_struct Tryd.underlying23 (hval 0 23 v0 rfl rfl)
  have k0 := h0
  have lt0 : ∀ x ∈ p0, x.block < W.heap.size := by obtain ⟨m, hm⟩ := k0; exact DataW.trod_lt m _ _ _ hm
  obtain ⟨key, s, rfl, hk1, hk2, hs⟩ : ∃ key s, cs = #[.int .i64 key, .string s] ∧ -9223372036854775808 ≤ key ∧ key ≤ 9223372036854775807 ∧ s.size ≤ 9223372036854775807 := by
    obtain ⟨fuel, hf⟩ := h0
    exact open_box (by simpa [Value.cells] using hf)
  have hg0 : W.cell? ⟨0, 0, none⟩ = some (.iface 127 (.pointer (some a0))) := by simpa using World.var?_cell gE hv0 0
  have hb0 : 0 < W.heap.size := cell_lt hg0
  clear hA0 hV0
  refine (lawBox_walk key s a0 W hk1 hk2 hs hg0 hb0).mono fun e W' ⟨he, bel⟩ => ?_
  subst he
  exact ⟨_, rfl, _, _, _, [], _, _, hW', trodAll_mk1 (shut_bool Tryd.underlying4 _), (trodAll_cons_mk (Below.trod laidOutN (by kernel_rfl) (of_decide_eq_true (by kernel_rfl)) k0 bel lt0) trodAll_mk0), vr (errVar_below hv0 hb0 bel) _, bel.frame _, fun h => by cases h⟩

theorem laid_metX (os : Os) : laidMetH Tryd.prog Rows.fnExactBoxOkRow.laid (({ World.holding Tryd.prog os ⟨#[.cells #[.string ⟨#[105, 116, 115, 32, 116, 101, 114, 109, 32, 105, 115, 32, 110, 111, 116, 32, 97, 32, 98, 111, 100, 121, 32, 116, 104, 97, 116, 32, 105, 115, 32, 115, 101, 97, 108, 101, 100, 32, 98, 121, 32, 105, 116, 115, 32, 107, 101, 121]⟩] 150], #[], []⟩ with heap := ((World.holding Tryd.prog os ⟨#[.cells #[.string ⟨#[105, 116, 115, 32, 116, 101, 114, 109, 32, 105, 115, 32, 110, 111, 116, 32, 97, 32, 98, 111, 100, 121, 32, 116, 104, 97, 116, 32, 105, 115, 32, 115, 101, 97, 108, 101, 100, 32, 98, 121, 32, 105, 116, 115, 32, 107, 101, 121]⟩] 150], #[], []⟩).heap.modify 0 fun | .cells _ t frozen => .cells #[.iface 127 (.pointer (some ⟨8, 0, none⟩))] t frozen | o => o).modify 1 fun | .cells _ t frozen => .cells #[.iface 109 (.agg #[.pointer (some ⟨3, 44, none⟩)])] t frozen | o => o } : World).forCall (fun _ _ => 0) ⟨#[], #[.agg #[.int .i64 0, .string ⟨#[]⟩]], []⟩).memory :=
  laidMetH_of_parts (laidMet_of_run (ps := [.cell 0 0, .cell 8 0]) 8 (by kernel_rfl) (by kernel_rfl) (by kernel_rfl)) (by kernel_rfl)
theorem readsX (os : Os) {H : Type} (enc : TypeId × Value → H) : ∃ ds gs places, DataW.whole enc Tryd.prog (({ World.holding Tryd.prog os ⟨#[.cells #[.string ⟨#[105, 116, 115, 32, 116, 101, 114, 109, 32, 105, 115, 32, 110, 111, 116, 32, 97, 32, 98, 111, 100, 121, 32, 116, 104, 97, 116, 32, 105, 115, 32, 115, 101, 97, 108, 101, 100, 32, 98, 121, 32, 105, 116, 115, 32, 107, 101, 121]⟩] 150], #[], []⟩ with heap := ((World.holding Tryd.prog os ⟨#[.cells #[.string ⟨#[105, 116, 115, 32, 116, 101, 114, 109, 32, 105, 115, 32, 110, 111, 116, 32, 97, 32, 98, 111, 100, 121, 32, 116, 104, 97, 116, 32, 105, 115, 32, 115, 101, 97, 108, 101, 100, 32, 98, 121, 32, 105, 116, 115, 32, 107, 101, 121]⟩] 150], #[], []⟩).heap.modify 0 fun | .cells _ t frozen => .cells #[.iface 127 (.pointer (some ⟨8, 0, none⟩))] t frozen | o => o).modify 1 fun | .cells _ t frozen => .cells #[.iface 109 (.agg #[.pointer (some ⟨3, 44, none⟩)])] t frozen | o => o } : World).forCall (fun _ _ => 0) ⟨#[], #[.agg #[.int .i64 0, .string ⟨#[]⟩]], []⟩).memory Tryd.f3.params.toList Rows.fnExactBoxOkSpec.vars false #[(.agg #[.int .i64 0, .string ⟨#[]⟩] : Value)].toList 8 = some (ds, gs, places) := by
  exact ⟨[.agg [.lit (.int .i64 0), .lit (.string [])]], [tok enc (.iface 127 (.pointer (some ⟨8, 0, none⟩)))], [.cell 0 0], by kernel_rfl⟩

set_option maxRecDepth 100000 in
theorem liftedX (os : Os) (started : os.Started) (H : Type) (enc : TypeId × Value → H) (F : Stop.Interp) :
    ReturnsInHanded {} Tryd.checked os 3 .any ((OpenSpec.ofChange Rows.fnExactBoxOkSpec).preRow enc Tryd.prog Tryd.f3 Rows.fnExactBoxOkRow.domain false Rows.fnExactBoxOkRow.laid) (((OpenSpec.ofChange Rows.fnExactBoxOkSpec).at F).post enc Tryd.prog Tryd.f3 false true false false) := by
  obtain ⟨dz, gz, places, hx⟩ := readsX os enc
  refine returnsInHanded_of_row (C := Tryd.checked) (s := OpenSpec.ofChange Rows.fnExactBoxOkSpec) ownN started (by kernel_rfl) Tryd.func3
    (witness_row_at (enc := enc) (C := Tryd.checked) false ({ World.holding Tryd.prog os ⟨#[.cells #[.string ⟨#[105, 116, 115, 32, 116, 101, 114, 109, 32, 105, 115, 32, 110, 111, 116, 32, 97, 32, 98, 111, 100, 121, 32, 116, 104, 97, 116, 32, 105, 115, 32, 115, 101, 97, 108, 101, 100, 32, 98, 121, 32, 105, 116, 115, 32, 107, 101, 121]⟩] 150], #[], []⟩ with heap := ((World.holding Tryd.prog os ⟨#[.cells #[.string ⟨#[105, 116, 115, 32, 116, 101, 114, 109, 32, 105, 115, 32, 110, 111, 116, 32, 97, 32, 98, 111, 100, 121, 32, 116, 104, 97, 116, 32, 105, 115, 32, 115, 101, 97, 108, 101, 100, 32, 98, 121, 32, 105, 116, 115, 32, 107, 101, 121]⟩] 150], #[], []⟩).heap.modify 0 fun | .cells _ t frozen => .cells #[.iface 127 (.pointer (some ⟨8, 0, none⟩))] t frozen | o => o).modify 1 fun | .cells _ t frozen => .cells #[.iface 109 (.agg #[.pointer (some ⟨3, 44, none⟩)])] t frozen | o => o } : World) #[.agg #[.int .i64 0, .string ⟨#[]⟩]] rfl (by kernel_rfl) (by kernel_rfl) (by kernel_rfl)
      (OpenSpec.preRow_of_cond 8 hx (by kernel_rfl) (fun k hk => by cases hk) (by kernel_rfl) (laid_metX os))) ?_
  intro W base args ds gs before hval hW _ _ _ hL _ _
  exact contractX H enc W base args ds gs before hval hW (by
    have h1 := laidMetH.filter (fun x => x.1 == "loop.example/g00318/impl.errNoBox") hL
    rw [err_listed] at h1
    rw [MakeChecks.laidMetH_plain _ _ _ rfl] at h1
    exact h1)

theorem saidX : Rows.FnExactBoxOkSaid :=
  OpenClaim.holds_of_cond 3 Tryd.f3 rfl rfl rfl rfl rfl rfl rfl ⟨rfl, rfl, rfl, rfl, rfl⟩ rfl rfl rfl rfl rfl (by kernel_rfl) Tryd.func3 (by kernel_rfl)
    (of_decide_eq_true (by kernel_rfl)) (by unfold Func.isWrapper; first | (rw [if_pos (by decide +kernel)]; kernel_rfl) | (rw [if_neg (by decide +kernel)]; exact ⟨rfl, rfl⟩))
    (fun os started H enc _ F => by rw [OpenClaim.pre_eq_preRow]; exact liftedX os started H enc F)

theorem plainX (f : FuncId) (fn : Func) (hf : Tryd.pinned.checked.prog.funcNamed Rows.fnExactBoxOkRow.func = some f) (hfn : Tryd.pinned.checked.prog.funcs[f]? = some fn) :
    true = Tryd.pinned.checked.prog.looks [] ∧ ∀ (j : Nat) t, fn.params[j]? = some t → Tryd.pinned.checked.prog.wantsStandIn t = false := by
  obtain rfl : f = 3 := Option.some.inj ((show Tryd.prog.funcNamed Rows.fnExactBoxOkRow.func = some 3 by kernel_rfl).symm.trans hf) |>.symm
  obtain rfl : fn = Tryd.f3 := (Option.some.inj (Tryd.func3.symm.trans hfn)).symm
  refine ⟨by kernel_rfl, fun j t ht => ?_⟩
  rw [Tryd.params3] at ht
  obtain rfl : t = 23 := by simpa using Array.mem_of_getElem? ht
  exact (show Tryd.prog.wantsStandIn 23 = false by kernel_rfl)

/-- THE CARD -/
theorem cardX : Rows.FnExactBoxOkCardSaid :=
  Claim7.holds_tied_plain_at .later [] _ _ _ _ saidX (fun _ h => by cases h) (by kernel_rfl) (fun _ h => by cases h) fnExactBoxOk_row_tie rfl ⟨rfl, rfl⟩ (by kernel_rfl) rfl plainX (by kernel_rfl)
#print axioms cardX
end Go.Proofs.YtdbkbgdnfphhfaaDoor
