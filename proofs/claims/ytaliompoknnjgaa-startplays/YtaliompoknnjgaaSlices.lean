/-
  Contracts of functions of package slices at the types that the laws use. No statement of the seat is here.
-/
import Derived.Test.YtaliompoknnjgaaTypes
import Derived.Test.YtaliompoknnjgaaWide
import Derived.BigQuiet
import Derived.Deep.QuietTactic
namespace Go.Proofs.Ytaliompoknnjgaa
open Go.RowKit
set_option maxRecDepth 20000
set_option linter.unusedVariables false

end Go.Proofs.Ytaliompoknnjgaa
