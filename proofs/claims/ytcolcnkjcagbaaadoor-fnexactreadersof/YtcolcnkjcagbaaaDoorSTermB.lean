/-
  The specification's recursive reader of terms does what the plain reader does. No condition but that the reader lies in memory.
-/
import Derived.Test.YtcolcnkjcagbaaaDoorSQ
namespace Go.Proofs.YtcolcnkjcagbaaaDoor
open Go.RowKit
set_option linter.unusedVariables false

end Go.Proofs.YtcolcnkjcagbaaaDoor
