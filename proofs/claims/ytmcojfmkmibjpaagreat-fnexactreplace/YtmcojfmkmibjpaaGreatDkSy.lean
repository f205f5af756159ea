/-
  Sync: both halves. Conditions: the lists read, and are not huge.
-/
import Derived.Test.YtmcojfmkmibjpaaGreatDkS1
import Derived.Test.YtmcojfmkmibjpaaGreatDkK
namespace Go.Proofs.YtmcojfmkmibjpaaGreat
open Go.RowKit
set_option linter.unusedVariables false

/-- the files behind a Sync -/
def syL (L S : List Fl) (O : List Dop) : List Fl := if diskB L S O = true then L else []
end Go.Proofs.YtmcojfmkmibjpaaGreat
