/-
  The two tables of the digest, as the program lays them. No condition.
-/
import Derived.Test.YtggjldmlhlkepaaDoorSSum
import Derived.Test.YtggjldmlhlkepaaDoorRows
import Derived.Test.YtggjldmlhlkepaaDoorTie
import Derived.Test.YtggjldmlhlkepaaDoorCards
import Derived.Lay
import Derived.Lib.LaidTab
import Derived.OpenShut
import Derived.ChangeVars
import Derived.ProofKit
import Derived.Deep.DeepHandedRow
namespace Go.Proofs.YtggjldmlhlkepaaDoor
open Go.ChangeShapes Go.WideShapes Go.ChangeAt Go.RowKit
set_option linter.unusedVariables false

theorem own : ownKnob Tryd.prog.godebug = none := by kernel_rfl
theorem laidOut : laidOutB Tryd.prog = true := by kernel_rfl
theorem gS : Tryd.prog.globalNamed "loop.example/g00318/impl.startWords" = some 0 := by kernel_rfl
theorem gR : Tryd.prog.globalNamed "loop.example/g00318/impl.roundWords" = some 1 := by kernel_rfl
theorem gST : (Tryd.prog.globals[0]?).map (·.type) = some 31 := by kernel_rfl
theorem gRT : (Tryd.prog.globals[1]?).map (·.type) = some 45 := by kernel_rfl
theorem cells31 : Tryd.prog.cellsOf 31 = 8 := by kernel_rfl
theorem cells45 : Tryd.prog.cellsOf 45 = 64 := by kernel_rfl
theorem cells30 : Tryd.prog.cellsOf 30 = 1 := by kernel_rfl
abbrev startH {H : Type} : DataW H := Rows.laid_loop_example_g00318_impl_startWords
abbrev roundH {H : Type} : DataW H := Rows.laid_loop_example_g00318_impl_roundWords
def startC : Array Value := (s00.list.map fun z => Value.int .u32 z).toArray
def roundC : Array Value := (kList.map fun z => Value.int .u32 z).toArray

/-- both tables hold what the program's text lays -/
structure Tabs (W : World) : Prop where
  s : Lib.TabIs Tryd.prog W "loop.example/g00318/impl.startWords" .u32 s00.list
  r : Lib.TabIs Tryd.prog W "loop.example/g00318/impl.roundWords" .u32 kList

theorem tabs_of_laid {W : World} (h : laidMetH Tryd.prog [("loop.example/g00318/impl.startWords", Rows.laid_loop_example_g00318_impl_startWords), ("loop.example/g00318/impl.roundWords", Rows.laid_loop_example_g00318_impl_roundWords)] W) : Tabs W := by
  refine ⟨Lib.tabIs_of_head (zs := s00.list) (rest := [("loop.example/g00318/impl.roundWords", Rows.laid_loop_example_g00318_impl_roundWords)]) gS gST Tryd.underlying31 Tryd.underlying30 cells30 cells31 h, ?_⟩
  have h2 := laidMetH.filter (fun x => x.1 == "loop.example/g00318/impl.roundWords") h
  rw [show (([("loop.example/g00318/impl.startWords", Rows.laid_loop_example_g00318_impl_startWords), ("loop.example/g00318/impl.roundWords", Rows.laid_loop_example_g00318_impl_roundWords)] : List (String × DataW Unit)).filter fun x => x.1 == "loop.example/g00318/impl.roundWords") = [("loop.example/g00318/impl.roundWords", Rows.laid_loop_example_g00318_impl_roundWords)] by kernel_rfl] at h2
  exact Lib.tabIs_of_head (zs := kList) (rest := []) gR gRT Tryd.underlying45 Tryd.underlying30 cells30 cells45 h2

theorem Tabs.words {W : World} (h : Tabs W) : Words kW W := fun k hk => h.r.cell gR k hk
theorem Tabs.start {W : World} (h : Tabs W) : Start s00 W := fun k hk => h.s.cell gS k hk

theorem tab_below {w w' : World} {n : String} {g : Nat} {k : IntKind} {zs : List Int} (hg : Tryd.prog.globalNamed n = some g) (h0 : 0 < zs.length) (h : Lib.TabIs Tryd.prog w n k zs) (hB : Below w.heap.size w w') : Lib.TabIs Tryd.prog w' n k zs := by
  have hlt : g < w.heap.size := cell_lt (h.cell hg 0 h0)
  unfold Lib.TabIs World.var? at h ⊢
  rw [hg] at h ⊢
  simp only [Option.bind_some] at h ⊢
  rw [hB.block g hlt]
  exact h

theorem Tabs.below {w w' : World} (h : Tabs w) (hB : Below w.heap.size w w') : Tabs w' := ⟨tab_below gS (by decide) h.s hB, tab_below gR (by decide) h.r hB⟩

theorem reads_start {H : Type} (enc : TypeId × Value → H) (W : World) (sp : Nat → Bool) : DataW.trod enc Tryd.prog W 0 sp true 3 31 startC.toList = some (startH, []) := by kernel_rfl
theorem reads_round {H : Type} (enc : TypeId × Value → H) (W : World) (sp : Nat → Bool) : DataW.trod enc Tryd.prog W 0 sp true 3 45 roundC.toList = some (roundH, []) := by kernel_rfl

theorem vars_of_tabs {H : Type} (enc : TypeId × Value → H) {W : World} (h : Tabs W) (sp : Nat → Bool) :
    DataW.TrodVars enc Tryd.prog W sp ["loop.example/g00318/impl.startWords", "loop.example/g00318/impl.roundWords"] [startH, roundH] (MemPlace.row ⟨0, 0, none⟩ startC.size ++ [] ++ (MemPlace.row ⟨1, 0, none⟩ roundC.size ++ [])) :=
  ⟨0, 31, startC, 3, [], _, gS, gST, h.s, reads_start enc W sp, trodVars_mk1 gR gRT h.r (reads_round enc W sp), rfl⟩

end Go.Proofs.YtggjldmlhlkepaaDoor
