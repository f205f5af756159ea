/-
  The card FnExactSizeForCardSaid: at every number the law returns true; the table reads afterwards as before. Conditions: the row's own (the table 'sizes' starts as the program's text lays it).
-/
import Derived.Test.YtgmeidllcfajcaaDoorSize
import Derived.Test.YtgmeidllcfajcaaDoorCards
import Derived.Test.YtgmeidllcfajcaaDoorTie
import Derived.ProofKit
import Derived.OpenShut
import Derived.Deep.DeepHandedRow
import Derived.Lib.LaidTab
import Derived.Lay
namespace Go.Proofs.YtgmeidllcfajcaaDoor
open Go.ChangeShapes Go.WideShapes Go.ChangeAt Go.RowKit
set_option linter.unusedVariables false

theorem lawSize_walk (n : Int) (w : World) (hS : Sizes w) :
    Calls Tryd.prog 3 #[.int .i64 n] w fun e w' => e = .returned (.bool true) ∧ w' = w := by
  go_enter Tryd.func3, Tryd.ntmps3
  go_wp2_with (go_at_call 8; refine (specSize_any _ _).mono ?_; rintro e w' ⟨rfl, rfl⟩)
  go_wp2_with (go_at_call 9; refine (implSize_any _ _ hS).mono ?_; rintro e w' ⟨rfl, rfl⟩)
  go_ret
  exact ⟨rfl, rfl⟩

theorem own : ownKnob Tryd.prog.godebug = none := by kernel_rfl
theorem gSizes : Tryd.prog.globalNamed "loop.example/g00318/impl.sizes" = some 0 := by kernel_rfl
theorem gSizesType : (Tryd.prog.globals[0]?).map (·.type) = some 29 := by kernel_rfl
theorem cells29 : Tryd.prog.cellsOf 29 = 5 := by kernel_rfl
theorem cells2 : Tryd.prog.cellsOf 2 = 1 := by kernel_rfl
def sizeCells : Array Value := #[.int .i64 16, .int .i64 32, .int .i64 64, .int .i64 128, .int .i64 256]
abbrev sizesH {H : Type} : DataW H := Rows.laid_loop_example_g00318_impl_sizes
theorem reads_sizes {H : Type} (enc : TypeId × Value → H) (W : World) (sp : Nat → Bool) : DataW.trod enc Tryd.prog W 0 sp true 3 29 sizeCells.toList = some (sizesH, []) := by kernel_rfl

/-- what the row's list gives: the table's cells -/
theorem sizes_of_laid {W : World} {l : List (String × DataW Unit)} (h : laidMet Tryd.prog (("loop.example/g00318/impl.sizes", Rows.laid_loop_example_g00318_impl_sizes) :: l) W) : Lib.TabIs Tryd.prog W "loop.example/g00318/impl.sizes" .i64 [16, 32, 64, 128, 256] :=
  Lib.tabIs_of_head (rest := l) gSizes gSizesType Tryd.underlying29 Tryd.underlying2 cells2 cells29 h

theorem Sizes.of_tab {W : World} (h : Lib.TabIs Tryd.prog W "loop.example/g00318/impl.sizes" .i64 [16, 32, 64, 128, 256]) : Sizes W := by
  intro k hk
  have := h.cell gSizes k (by simpa using hk)
  simpa [sz] using this

/-- the table, read again -/
theorem vars_of_tab {H : Type} (enc : TypeId × Value → H) {W : World} (h : Lib.TabIs Tryd.prog W "loop.example/g00318/impl.sizes" .i64 [16, 32, 64, 128, 256]) (sp : Nat → Bool) :
    DataW.TrodVars enc Tryd.prog W sp ["loop.example/g00318/impl.sizes"] [sizesH] (MemPlace.row ⟨0, 0, none⟩ sizeCells.size ++ []) :=
  trodVars_mk1 gSizes gSizesType h (reads_sizes enc W sp)

theorem contractSize (H : Type) (enc : TypeId × Value → H) (W : World) (base : Nat) (args : Array Value) (ds gs : List (DataW H)) (before : List MemPlace)
    (hval : ∀ (j : Nat) t v, Tryd.f3.params[j]? = some t → args[j]? = some v → Value.okWide Tryd.prog W .any base t v)
    (hW : DataW.Whole enc Tryd.prog Tryd.f3.params.toList Rows.fnExactSizeForSpec.vars false W args.toList ds gs before) (hL : laidMetH Tryd.prog Rows.fnExactSizeForRow.laid W) :
    Calls Tryd.prog 3 args W fun e W' => ∃ v, e = .returned v ∧ Rows.fnExactSizeForSpec.post enc Tryd.prog Tryd.f3 false true false false W args v W' := by
  have hW' := hW
  obtain ⟨p, q, hA0, hV0, rfl, hfz, hnd⟩ := hW
  have hA : DataW.TrodAll enc Tryd.prog W 0 (fun _ => true) true Tryd.f3.params.toList args.toList ds p := hA0
  have hV : DataW.TrodVars enc Tryd.prog W (fun _ => true) ["loop.example/g00318/impl.sizes"] gs q := hV0
  rw [Tryd.params3] at hA hval
  obtain ⟨v0, vs0, d0, ds0, p0, q0, hargs, rfl, rfl, h0, r0⟩ := trodAll_cons hA
  obtain ⟨rfl, rfl, rfl⟩ := trodAll_nil r0
  obtain rfl : args = #[v0] := by cases args; simp_all
  obtain ⟨n, rfl, rfl, rfl, w0⟩ := open_int Tryd.underlying2 (hval 0 2 v0 rfl rfl) h0
  have hL1 : laidMet Tryd.prog [("loop.example/g00318/impl.sizes", Rows.laid_loop_example_g00318_impl_sizes)] W := hL
  have hT := sizes_of_laid (l := []) hL1
  obtain ⟨rfl, rfl⟩ := hV.unique (vars_of_tab enc hT _)
  clear hA0 hV0
  refine (lawSize_walk n W (Sizes.of_tab hT)).mono fun e W' ⟨he, hw⟩ => ?_
  subst he; subst hw
  exact ⟨_, rfl, post_of_same (pa := []) hW' (fun _ _ _ => trodAll_cons_mk (shut_bool Tryd.underlying4 _) trodAll_mk0) (fun sp _ => trodAll_cons_mk (shut_int Tryd.underlying2 w0) trodAll_mk0) (fun sp _ => vars_of_tab enc hT sp) (by simp)
    (World.keptBut_refl _ _) (fun _ => rfl) (ok_one (by kernel_rfl) rfl (okWide_bool_mk Tryd.underlying4 _))⟩

theorem laid_met3 (os : Os) : laidMet Tryd.prog Rows.fnExactSizeForRow.laid ((World.laidAll Tryd.prog os Rows.fnExactSizeForRow.laid).forCall (fun _ _ => 0) ⟨#[], #[.int .i64 0], []⟩).memory :=
  laidMet_laidAll _ (by kernel_rfl) (by kernel_rfl)
theorem reads3 (os : Os) {H : Type} (enc : TypeId × Value → H) : ∃ places, DataW.whole enc Tryd.prog ((World.laidAll Tryd.prog os Rows.fnExactSizeForRow.laid).forCall (fun _ _ => 0) ⟨#[], #[.int .i64 0], []⟩).memory Tryd.f3.params.toList Rows.fnExactSizeForSpec.vars false #[Value.int .i64 0].toList 8 = some ([.lit (.int .i64 0)], [sizesH], places) :=
  ⟨MemPlace.row ⟨0, 0, none⟩ 5, by kernel_rfl⟩

set_option maxRecDepth 100000 in
theorem liftedSize (os : Os) (started : os.Started) (H : Type) (enc : TypeId × Value → H) (F : Stop.Interp) :
    ReturnsInHanded {} Tryd.checked os 3 .any ((OpenSpec.ofChange Rows.fnExactSizeForSpec).preRow enc Tryd.prog Tryd.f3 Rows.fnExactSizeForRow.domain false Rows.fnExactSizeForRow.laid) (((OpenSpec.ofChange Rows.fnExactSizeForSpec).at F).post enc Tryd.prog Tryd.f3 false true false false) := by
  obtain ⟨places, hx⟩ := reads3 os enc
  refine returnsInHanded_of_row (C := Tryd.checked) (s := OpenSpec.ofChange Rows.fnExactSizeForSpec) own started (by kernel_rfl) Tryd.func3
    (witness_row_at (enc := enc) (C := Tryd.checked) false (World.laidAll Tryd.prog os Rows.fnExactSizeForRow.laid) #[.int .i64 0] (World.laidAll_os _ _ _) (by kernel_rfl) (by kernel_rfl) (by kernel_rfl)
      (OpenSpec.preRow_of_cond 8 hx (by kernel_rfl) (fun k hk => by cases hk) (by kernel_rfl) (laid_met3 os))) ?_
  intro W base args ds gs before hval hW _ _ _ hL _ _
  exact contractSize H enc W base args ds gs before hval hW hL

theorem saidSize : Rows.FnExactSizeForSaid :=
  OpenClaim.holds_of_cond 3 Tryd.f3 rfl rfl rfl rfl rfl rfl rfl ⟨rfl, rfl, rfl, rfl, rfl⟩ rfl rfl rfl rfl rfl (by kernel_rfl) Tryd.func3 (by kernel_rfl)
    (of_decide_eq_true (by kernel_rfl)) (by unfold Func.isWrapper; first | (rw [if_pos (by decide +kernel)]; kernel_rfl) | (rw [if_neg (by decide +kernel)]; exact ⟨rfl, rfl⟩))
    (fun os started H enc _ F => by rw [OpenClaim.pre_eq_preRow]; exact liftedSize os started H enc F)

theorem plain3 (f : FuncId) (fn : Func) (hf : Tryd.pinned.checked.prog.funcNamed Rows.fnExactSizeForRow.func = some f) (hfn : Tryd.pinned.checked.prog.funcs[f]? = some fn) :
    false = Tryd.pinned.checked.prog.looks [] ∧ ∀ (j : Nat) t, fn.params[j]? = some t → Tryd.pinned.checked.prog.wantsStandIn t = false := by
  obtain rfl : f = 3 := Option.some.inj ((show Tryd.prog.funcNamed Rows.fnExactSizeForRow.func = some 3 by kernel_rfl).symm.trans hf) |>.symm
  obtain rfl : fn = Tryd.f3 := (Option.some.inj (Tryd.func3.symm.trans hfn)).symm
  refine ⟨by kernel_rfl, fun j t ht => ?_⟩
  rw [Tryd.params3] at ht
  obtain rfl : t = 2 := by simpa using Array.mem_of_getElem? ht
  exact (show Tryd.prog.wantsStandIn 2 = false by kernel_rfl)

/-- THE CARD -/
theorem cardSize : Rows.FnExactSizeForCardSaid :=
  Claim7.holds_tied_plain_at .later [] _ _ _ _ saidSize (fun _ h => by cases h) (by kernel_rfl) (fun _ h => by cases h) fnExactSizeFor_row_tie rfl ⟨rfl, rfl⟩ (by kernel_rfl) rfl plain3 (by kernel_rfl)
#print axioms cardSize
end Go.Proofs.YtgmeidllcfajcaaDoor
