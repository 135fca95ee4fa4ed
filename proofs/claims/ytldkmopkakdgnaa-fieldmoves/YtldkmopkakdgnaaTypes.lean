/-
  The element types of slices, as the append law wants them. No statement of the seat is here.
-/
import Derived.Test.YtldkmopkakdgnaaProg
import Derived.Test.YtldkmopkakdgnaaBase
namespace Go.Proofs.Ytldkmopkakdgnaa
open Go.RowKit
set_option maxRecDepth 20000

theorem elBool : ElemT Try.prog 49 4 (.bool false) 1 1 := ⟨Try.underlying49, by kernel_rfl, rfl, by decide⟩
theorem elByte : ElemT Try.prog 22 5 (.int .u8 0) 1 1 := ⟨Try.underlying22, by kernel_rfl, rfl, by decide⟩
end Go.Proofs.Ytldkmopkakdgnaa
