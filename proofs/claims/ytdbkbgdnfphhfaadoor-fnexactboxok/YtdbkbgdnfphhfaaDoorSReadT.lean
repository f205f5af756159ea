/-
  The specification's ReadTerm, by what its plain reader says. No condition but the text's length.
-/
import Derived.Test.YtdbkbgdnfphhfaaDoorSRead
namespace Go.Proofs.YtdbkbgdnfphhfaaDoor
open Go.RowKit
set_option linter.unusedVariables false

end Go.Proofs.YtdbkbgdnfphhfaaDoor
