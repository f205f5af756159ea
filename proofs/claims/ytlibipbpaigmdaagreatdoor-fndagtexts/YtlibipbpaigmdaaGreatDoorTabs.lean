/-
  The two tables of the digest, as the program lays them. No condition.
-/
import Derived.Test.YtlibipbpaigmdaaGreatDoorSSum
import Derived.Test.YtlibipbpaigmdaaGreatDoorRows
import Derived.Test.YtlibipbpaigmdaaGreatDoorTie
import Derived.Test.YtlibipbpaigmdaaGreatDoorCards
import Derived.Lay
import Derived.Lib.LaidTab
import Derived.OpenShut
import Derived.ChangeVars
import Derived.ProofKit
import Derived.Deep.DeepHandedRow
namespace Go.Proofs.YtlibipbpaigmdaaGreatDoor
open Go.ChangeShapes Go.WideShapes Go.ChangeAt Go.RowKit
set_option linter.unusedVariables false

theorem own : ownKnob Tryz.prog.godebug = none := by kernel_rfl
theorem laidOut : laidOutB Tryz.prog = true := by kernel_rfl
theorem gS : Tryz.prog.globalNamed "loop.example/g00318/impl.startWords" = some 0 := by kernel_rfl
theorem gR : Tryz.prog.globalNamed "loop.example/g00318/impl.roundWords" = some 1 := by kernel_rfl
theorem gST : (Tryz.prog.globals[0]?).map (·.type) = some 173 := by kernel_rfl
theorem gRT : (Tryz.prog.globals[1]?).map (·.type) = some 228 := by kernel_rfl
theorem cells173 : Tryz.prog.cellsOf 173 = 8 := by kernel_rfl
theorem cells228 : Tryz.prog.cellsOf 228 = 64 := by kernel_rfl
theorem cells172 : Tryz.prog.cellsOf 172 = 1 := by kernel_rfl
abbrev startH {H : Type} : DataW H := Rows.laid_loop_example_g00318_impl_startWords
abbrev roundH {H : Type} : DataW H := Rows.laid_loop_example_g00318_impl_roundWords
def startC : Array Value := (s00.list.map fun z => Value.int .u32 z).toArray
def roundC : Array Value := (kList.map fun z => Value.int .u32 z).toArray

/-- both tables hold what the program's text lays -/
structure Tabs (W : World) : Prop where
  s : Lib.TabIs Tryz.prog W "loop.example/g00318/impl.startWords" .u32 s00.list
  r : Lib.TabIs Tryz.prog W "loop.example/g00318/impl.roundWords" .u32 kList

theorem tabs_of_laid {W : World} (h : laidMetH Tryz.prog [("loop.example/g00318/impl.startWords", Rows.laid_loop_example_g00318_impl_startWords), ("loop.example/g00318/impl.roundWords", Rows.laid_loop_example_g00318_impl_roundWords)] W) : Tabs W := by
  refine ⟨Lib.tabIs_of_head (zs := s00.list) (rest := [("loop.example/g00318/impl.roundWords", Rows.laid_loop_example_g00318_impl_roundWords)]) gS gST Tryz.underlying173 Tryz.underlying172 cells172 cells173 h, ?_⟩
  have h2 := laidMetH.filter (fun x => x.1 == "loop.example/g00318/impl.roundWords") h
  rw [show (([("loop.example/g00318/impl.startWords", Rows.laid_loop_example_g00318_impl_startWords), ("loop.example/g00318/impl.roundWords", Rows.laid_loop_example_g00318_impl_roundWords)] : List (String × DataW Unit)).filter fun x => x.1 == "loop.example/g00318/impl.roundWords") = [("loop.example/g00318/impl.roundWords", Rows.laid_loop_example_g00318_impl_roundWords)] by kernel_rfl] at h2
  exact Lib.tabIs_of_head (zs := kList) (rest := []) gR gRT Tryz.underlying228 Tryz.underlying172 cells172 cells228 h2

theorem Tabs.words {W : World} (h : Tabs W) : Words kW W := fun k hk => h.r.cell gR k hk
theorem Tabs.start {W : World} (h : Tabs W) : Start s00 W := fun k hk => h.s.cell gS k hk

theorem tab_below {w w' : World} {n : String} {g : Nat} {k : IntKind} {zs : List Int} (hg : Tryz.prog.globalNamed n = some g) (h0 : 0 < zs.length) (h : Lib.TabIs Tryz.prog w n k zs) (hB : Below w.heap.size w w') : Lib.TabIs Tryz.prog w' n k zs := by
  have hlt : g < w.heap.size := cell_lt (h.cell hg 0 h0)
  unfold Lib.TabIs World.var? at h ⊢
  rw [hg] at h ⊢
  simp only [Option.bind_some] at h ⊢
  rw [hB.block g hlt]
  exact h

theorem Tabs.below {w w' : World} (h : Tabs w) (hB : Below w.heap.size w w') : Tabs w' := ⟨tab_below gS (by decide) h.s hB, tab_below gR (by decide) h.r hB⟩

theorem reads_start {H : Type} (enc : TypeId × Value → H) (W : World) (sp : Nat → Bool) : DataW.trod enc Tryz.prog W 0 sp true 3 173 startC.toList = some (startH, []) := by kernel_rfl
theorem reads_round {H : Type} (enc : TypeId × Value → H) (W : World) (sp : Nat → Bool) : DataW.trod enc Tryz.prog W 0 sp true 3 228 roundC.toList = some (roundH, []) := by kernel_rfl

theorem vars_of_tabs {H : Type} (enc : TypeId × Value → H) {W : World} (h : Tabs W) (sp : Nat → Bool) :
    DataW.TrodVars enc Tryz.prog W sp ["loop.example/g00318/impl.startWords", "loop.example/g00318/impl.roundWords"] [startH, roundH] (MemPlace.row ⟨0, 0, none⟩ startC.size ++ [] ++ (MemPlace.row ⟨1, 0, none⟩ roundC.size ++ [])) :=
  ⟨0, 173, startC, 3, [], _, gS, gST, h.s, reads_start enc W sp, trodVars_mk1 gR gRT h.r (reads_round enc W sp), rfl⟩

end Go.Proofs.YtlibipbpaigmdaaGreatDoor
