/-
  The tables that IdOf reads, as its row lists them. No condition.
-/
import Derived.Test.YtniidjanngajoaaDoorId
import Derived.Test.YtniidjanngajoaaDoorPowOpen
namespace Go.Proofs.YtniidjanngajoaaDoor
open Go.ChangeShapes Go.WideShapes Go.ChangeAt Go.RowKit Go.Deep
set_option linter.unusedVariables false

theorem pow_listed7 : (Rows.fnExactIdOfRow.laid.filter fun x => x.1 == "internal/strconv.uint64pow10") = [("internal/strconv.uint64pow10", Rows.laid_internal_strconv_uint64pow10)] := by kernel_rfl
theorem tabs_listed7 : (Rows.fnExactIdOfRow.laid.filter fun x => x.1 == "loop.example/g00318/impl.startWords" || x.1 == "loop.example/g00318/impl.roundWords") = [("loop.example/g00318/impl.startWords", Rows.laid_loop_example_g00318_impl_startWords), ("loop.example/g00318/impl.roundWords", Rows.laid_loop_example_g00318_impl_roundWords)] := by kernel_rfl
theorem all_of_laid7 {W : World} (h : laidMetH Tryd.prog Rows.fnExactIdOfRow.laid W) : AllT W := by
  have h1 := laidMetH.filter (fun x => x.1 == "internal/strconv.uint64pow10") h
  rw [pow_listed7] at h1
  have h2 := laidMetH.filter (fun x => x.1 == "loop.example/g00318/impl.startWords" || x.1 == "loop.example/g00318/impl.roundWords") h
  rw [tabs_listed7] at h2
  exact ⟨tabs_of_laid h2, pow_of_one h1⟩
end Go.Proofs.YtniidjanngajoaaDoor
