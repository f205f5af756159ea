/-
  The two tables of the digest, as the program lays them. No condition.
-/
import Derived.Test.YtniidjanngajoaaDoorSSum
import Derived.Test.YtniidjanngajoaaDoorRows
import Derived.Test.YtniidjanngajoaaDoorTie
import Derived.Test.YtniidjanngajoaaDoorCards
import Derived.Lay
import Derived.Lib.LaidTab
import Derived.OpenShut
import Derived.ChangeVars
import Derived.ProofKit
import Derived.Deep.DeepHandedRow
namespace Go.Proofs.YtniidjanngajoaaDoor
open Go.ChangeShapes Go.WideShapes Go.ChangeAt Go.RowKit
set_option linter.unusedVariables false

theorem own : ownKnob Tryd.prog.godebug = none := by kernel_rfl
theorem laidOut : laidOutB Tryd.prog = true := by kernel_rfl
theorem gS : Tryd.prog.globalNamed "loop.example/g00318/impl.startWords" = some 0 := by kernel_rfl
theorem gR : Tryd.prog.globalNamed "loop.example/g00318/impl.roundWords" = some 1 := by kernel_rfl
theorem gST : (Tryd.prog.globals[0]?).map (·.type) = some 45 := by kernel_rfl
theorem gRT : (Tryd.prog.globals[1]?).map (·.type) = some 73 := by kernel_rfl
theorem cells45 : Tryd.prog.cellsOf 45 = 8 := by kernel_rfl
theorem cells73 : Tryd.prog.cellsOf 73 = 64 := by kernel_rfl
theorem cells42 : Tryd.prog.cellsOf 42 = 1 := by kernel_rfl
abbrev startH {H : Type} : DataW H := Rows.laid_loop_example_g00318_impl_startWords
abbrev roundH {H : Type} : DataW H := Rows.laid_loop_example_g00318_impl_roundWords
def startC : Array Value := (s00.list.map fun z => Value.int .u32 z).toArray
def roundC : Array Value := (kList.map fun z => Value.int .u32 z).toArray

/-- both tables hold what the program's text lays -/
structure Tabs (W : World) : Prop where
  s : Lib.TabIs Tryd.prog W "loop.example/g00318/impl.startWords" .u32 s00.list
  r : Lib.TabIs Tryd.prog W "loop.example/g00318/impl.roundWords" .u32 kList

theorem tabs_of_laid {W : World} (h : laidMetH Tryd.prog [("loop.example/g00318/impl.startWords", Rows.laid_loop_example_g00318_impl_startWords), ("loop.example/g00318/impl.roundWords", Rows.laid_loop_example_g00318_impl_roundWords)] W) : Tabs W := by
  refine ⟨Lib.tabIs_of_head (zs := s00.list) (rest := [("loop.example/g00318/impl.roundWords", Rows.laid_loop_example_g00318_impl_roundWords)]) gS gST Tryd.underlying45 Tryd.underlying42 cells42 cells45 h, ?_⟩
  have h2 := laidMetH.filter (fun x => x.1 == "loop.example/g00318/impl.roundWords") h
  rw [show (([("loop.example/g00318/impl.startWords", Rows.laid_loop_example_g00318_impl_startWords), ("loop.example/g00318/impl.roundWords", Rows.laid_loop_example_g00318_impl_roundWords)] : List (String × DataW Unit)).filter fun x => x.1 == "loop.example/g00318/impl.roundWords") = [("loop.example/g00318/impl.roundWords", Rows.laid_loop_example_g00318_impl_roundWords)] by kernel_rfl] at h2
  exact Lib.tabIs_of_head (zs := kList) (rest := []) gR gRT Tryd.underlying73 Tryd.underlying42 cells42 cells73 h2

theorem Tabs.words {W : World} (h : Tabs W) : Words kW W := fun k hk => h.r.cell gR k hk
theorem Tabs.start {W : World} (h : Tabs W) : Start s00 W := fun k hk => h.s.cell gS k hk

theorem tab_below {w w' : World} {n : String} {g : Nat} {k : IntKind} {zs : List Int} (hg : Tryd.prog.globalNamed n = some g) (h0 : 0 < zs.length) (h : Lib.TabIs Tryd.prog w n k zs) (hB : Below w.heap.size w w') : Lib.TabIs Tryd.prog w' n k zs := by
  have hlt : g < w.heap.size := cell_lt (h.cell hg 0 h0)
  unfold Lib.TabIs World.var? at h ⊢
  rw [hg] at h ⊢
  simp only [Option.bind_some] at h ⊢
  rw [hB.block g hlt]
  exact h

theorem Tabs.below {w w' : World} (h : Tabs w) (hB : Below w.heap.size w w') : Tabs w' := ⟨tab_below gS (by decide) h.s hB, tab_below gR (by decide) h.r hB⟩

theorem reads_start {H : Type} (enc : TypeId × Value → H) (W : World) (sp : Nat → Bool) : DataW.trod enc Tryd.prog W 0 sp true 3 45 startC.toList = some (startH, []) := by kernel_rfl
theorem reads_round {H : Type} (enc : TypeId × Value → H) (W : World) (sp : Nat → Bool) : DataW.trod enc Tryd.prog W 0 sp true 3 73 roundC.toList = some (roundH, []) := by kernel_rfl

theorem vars_of_tabs {H : Type} (enc : TypeId × Value → H) {W : World} (h : Tabs W) (sp : Nat → Bool) :
    DataW.TrodVars enc Tryd.prog W sp ["loop.example/g00318/impl.startWords", "loop.example/g00318/impl.roundWords"] [startH, roundH] (MemPlace.row ⟨0, 0, none⟩ startC.size ++ [] ++ (MemPlace.row ⟨1, 0, none⟩ roundC.size ++ [])) :=
  ⟨0, 45, startC, 3, [], _, gS, gST, h.s, reads_start enc W sp, trodVars_mk1 gR gRT h.r (reads_round enc W sp), rfl⟩

theorem law3_walk (s : ByteArray) (hs : s.size ≤ 9223372036854775807) (w : World) (hT : Tabs w) :
    Calls Tryd.prog 3 #[.string s] w fun e w' => e = .returned (.bool true) ∧ Below w.heap.size w w' := by
  by_cases hb : (1048576 : Int) < (s.size : Int)
  · go_enter Tryd.func3, Tryd.ntmps3
    go_wp2
    go_ret
    exact ⟨rfl, Below.refl _ _⟩
  have hl : s.size ≤ 1048576 := by omega
  go_enter Tryd.func3, Tryd.ntmps3
  go_wp2_with fail
  refine (specSum_any s hl _).mono ?_
  rintro e w1 ⟨rfl, hB1⟩
  have hT1 := hT.below hB1
  have HT1 : Hid (Tabs w1) := hT1
  clear hT1 hT
  go_wp2_with fail
  refine (implSum_any s hl kW s00 _ HT1.out.words HT1.out.start).mono ?_
  rintro e w2 ⟨rfl, hB2⟩
  generalize strB (sumS kW s00 s).bytes = q
  have hqq : (q.toList != q.toList) = false := by simp
  go_wp2
  go_ret
  exact ⟨rfl, hB1.trans (hB2.mono hB1.size)⟩
end Go.Proofs.YtniidjanngajoaaDoor
