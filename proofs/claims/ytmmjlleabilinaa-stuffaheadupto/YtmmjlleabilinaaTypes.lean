/-
  The element types of slices, as the append law wants them. No statement of the seat is here.
-/
import Derived.Test.YtmmjlleabilinaaProg
import Derived.Test.YtmmjlleabilinaaBase
namespace Go.Proofs.Ytmmjlleabilinaa
open Go.RowKit

theorem elBool : ElemT Try.prog 22 4 (.bool false) 1 1 := ⟨Try.underlying22, by kernel_rfl, rfl, by decide⟩
end Go.Proofs.Ytmmjlleabilinaa
