/-
  The specification's ReadTerm, by what its plain reader says. No condition but the text's length.
-/
import Derived.Test.YtcolcnkjcagbaaaDoorSRead
namespace Go.Proofs.YtcolcnkjcagbaaaDoor
open Go.RowKit
set_option linter.unusedVariables false

end Go.Proofs.YtcolcnkjcagbaaaDoor
