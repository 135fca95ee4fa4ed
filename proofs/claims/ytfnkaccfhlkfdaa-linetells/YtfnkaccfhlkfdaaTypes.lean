/-
  The element types of slices, as the append law wants them. No statement of the seat is here.
-/
import Derived.Test.YtfnkaccfhlkfdaaProg
import Derived.Test.YtfnkaccfhlkfdaaBase
namespace Go.Proofs.Ytfnkaccfhlkfdaa
open Go.RowKit

theorem elBool : ElemT Try.prog 22 4 (.bool false) 1 1 := ⟨Try.underlying22, by kernel_rfl, rfl, by decide⟩
end Go.Proofs.Ytfnkaccfhlkfdaa
