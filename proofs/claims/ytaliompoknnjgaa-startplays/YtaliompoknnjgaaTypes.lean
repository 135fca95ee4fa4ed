/-
  The element types of slices, as the append law wants them. No statement of the seat is here.
-/
import Derived.Test.YtaliompoknnjgaaProg
import Derived.Test.YtaliompoknnjgaaBase
namespace Go.Proofs.Ytaliompoknnjgaa
open Go.RowKit
set_option maxRecDepth 20000

theorem elInt : ElemT Try.prog 22 3 (.int .i64 0) 1 8 := ⟨Try.underlying22, by kernel_rfl, rfl, by decide⟩
end Go.Proofs.Ytaliompoknnjgaa
