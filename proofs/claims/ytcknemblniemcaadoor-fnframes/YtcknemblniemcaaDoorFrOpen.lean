/-
  The table halfLeft, as the rows lay it: its cells, and read again. No condition.
-/
import Derived.Test.YtcknemblniemcaaDoorCrcI
import Derived.Test.YtcknemblniemcaaDoorCards
import Derived.Test.YtcknemblniemcaaDoorTie
import Derived.ProofKit
import Derived.OpenShut
import Derived.Deep.DeepHandedRow
import Derived.Lib.LaidTab
import Derived.ShutString
import Derived.Lay
namespace Go.Proofs.YtcknemblniemcaaDoor
open Go.ChangeShapes Go.WideShapes Go.ChangeAt Go.RowKit
set_option linter.unusedVariables false

theorem own : ownKnob Tryd.prog.godebug = none := by kernel_rfl
/-- the table's name -/
abbrev halfN : String := Rows.fnExactFrameOfSpec.vars.headD ""
abbrev halfI : List Int := [0, 498536548, 997073096, 651767980, 1994146192, 1802195444, 1303535960, 1342533948, 3988292384, 4027552580, 3604390888, 3412177804, 2607071920, 2262029012, 2685067896, 3183342108]
theorem gHalf : Tryd.prog.globalNamed halfN = some 0 := by kernel_rfl
theorem gHalfType : (Tryd.prog.globals[0]?).map (·.type) = some 46 := by kernel_rfl
theorem cellsH : Tryd.prog.cellsOf 46 = 16 := by kernel_rfl
theorem cellsU : Tryd.prog.cellsOf 40 = 1 := by kernel_rfl
def halfCells : Array Value := (halfI.map (fun z => Value.int .u32 z)).toArray
abbrev halfH {H : Type} : DataW H := Rows.laid_loop_example_g00318_impl_halfLeft
theorem reads_half {H : Type} (enc : TypeId × Value → H) (W : World) (sp : Nat → Bool) : DataW.trod enc Tryd.prog W 0 sp true 3 46 halfCells.toList = some (halfH, []) := by kernel_rfl

/-- what the row's list gives: the table's cells -/
theorem half_of_laid {W : World} {l : List (String × DataW Unit)} (h : laidMet Tryd.prog ((halfN, Rows.laid_loop_example_g00318_impl_halfLeft) :: l) W) : Lib.TabIs Tryd.prog W halfN .u32 halfI :=
  Lib.tabIs_of_head (rest := l) gHalf gHalfType Tryd.underlying46 Tryd.underlying40 cellsU cellsH h

theorem Halves.of_tab {W : World} (h : Lib.TabIs Tryd.prog W halfN .u32 halfI) : Halves W := by
  intro k hk
  have := h.cell gHalf k (by simpa [halfI] using hk)
  rw [this]
  have e : ∀ i : Fin 16, halfI.getD i.val 0 = ((tb i.val : Nat) : Int) := by decide
  rw [e ⟨k, hk⟩]

/-- the table, read again -/
theorem vars_of_tab {H : Type} (enc : TypeId × Value → H) {W : World} (h : Lib.TabIs Tryd.prog W halfN .u32 halfI) (sp : Nat → Bool) :
    DataW.TrodVars enc Tryd.prog W sp [halfN] [halfH] (MemPlace.row ⟨0, 0, none⟩ halfCells.size ++ []) :=
  trodVars_mk1 gHalf gHalfType h (reads_half enc W sp)

theorem tab_below {w w' : World} (h : Lib.TabIs Tryd.prog w halfN .u32 halfI) (hB : Below w.heap.size w w') : Lib.TabIs Tryd.prog w' halfN .u32 halfI := by
  have hlt : 0 < w.heap.size := cell_lt (h.cell gHalf 0 (by decide))
  unfold Lib.TabIs World.var? at h ⊢
  rw [gHalf] at h ⊢
  simp only [Option.bind_some] at h ⊢
  rw [hB.block 0 hlt]
  exact h
end Go.Proofs.YtcknemblniemcaaDoor
