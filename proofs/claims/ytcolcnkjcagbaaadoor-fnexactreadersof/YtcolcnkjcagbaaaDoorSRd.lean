/-
  The specification's reader of terms, its small methods: is, want, number, add, and l1Int. They do what plain data says. No condition but that the reader lies in memory.
-/
import Derived.Test.YtcolcnkjcagbaaaDoorOfText
import Derived.Deep.RegionHeld3
namespace Go.Proofs.YtcolcnkjcagbaaaDoor
open Go.RowKit
set_option linter.unusedVariables false

section
variable {w : World} {R : Nat} {s : ByteArray} {i : Int} {bad : Bool} {v : Value}
end

theorem preB_slice {s p : ByteArray} {i : Nat} (hi : i + p.size ≤ s.size) : ((s.extract i (i + p.size)).toList == p.toList) = preB s i p := by
  unfold preB Lib.hasPrefix
  rw [Bool.eq_iff_iff, beq_iff_eq, List.isPrefixOf_iff_prefix, List.prefix_iff_eq_take, Lib.extract_toList, Lib.toList_data, ← Lib.size_eq, show i + p.size - i = p.size by omega]
  exact eq_comm

end Go.Proofs.YtcolcnkjcagbaaaDoor
