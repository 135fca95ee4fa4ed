/-
  Contracts of functions of package slices at the types that the laws use. No statement of the seat is here.
-/
import Derived.Test.YtajfohnblmnjjaaTypes
import Derived.Test.YtajfohnblmnjjaaWide
import Derived.BigQuiet
import Derived.Deep.QuietTactic
namespace Go.Proofs.Ytajfohnblmnjjaa
open Go.RowKit
set_option linter.unusedVariables false

end Go.Proofs.Ytajfohnblmnjjaa
