/-
  Contracts of slices.Concat and of slices.Grow of nil, at the types that the laws use. No statement of the seat is here.
-/
import Derived.Test.YtepogmnodmoebaaTypes
import Derived.Test.YtepogmnodmoebaaZeros
namespace Go.Proofs.Ytepogmnodmoebaa
open Go.RowKit
set_option linter.unusedVariables false

end Go.Proofs.Ytepogmnodmoebaa
