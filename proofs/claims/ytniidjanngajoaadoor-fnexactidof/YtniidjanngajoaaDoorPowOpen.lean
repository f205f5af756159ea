/-
  The library's table of powers of ten, as the rows list it. No condition.
-/
import Derived.Test.YtniidjanngajoaaDoorNT4
import Derived.Test.YtniidjanngajoaaDoorNodeOpen
namespace Go.Proofs.YtniidjanngajoaaDoor
open Go.ChangeShapes Go.WideShapes Go.ChangeAt Go.RowKit Go.Deep
set_option linter.unusedVariables false

theorem gPT : (Tryd.prog.globals[2]?).map (·.type) = some 116 := by kernel_rfl
theorem cells116 : Tryd.prog.cellsOf 116 = 20 := by kernel_rfl
theorem cells39 : Tryd.prog.cellsOf 39 = 1 := by kernel_rfl

theorem pow_of_one {W : World} (h : laidMetH Tryd.prog [("internal/strconv.uint64pow10", Rows.laid_internal_strconv_uint64pow10)] W) : Pow W :=
  Lib.tabIs_of_head (zs := Lib.pow10Tab) (rest := []) gP gPT Tryd.underlying116 Tryd.underlying39 cells39 cells116 h

theorem pow_listed6 : (Rows.fnExactNodeTextRow.laid.filter fun x => x.1 == "internal/strconv.uint64pow10") = [("internal/strconv.uint64pow10", Rows.laid_internal_strconv_uint64pow10)] := by kernel_rfl
theorem pow_of_laid6 {W : World} (h : laidMetH Tryd.prog Rows.fnExactNodeTextRow.laid W) : Pow W := by
  have h2 := laidMetH.filter (fun x => x.1 == "internal/strconv.uint64pow10") h
  rw [pow_listed6] at h2
  exact pow_of_one h2
end Go.Proofs.YtniidjanngajoaaDoor
