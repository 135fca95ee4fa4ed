/-
  The element types of slices, as the append law wants them. No statement of the seat is here.
-/
import Derived.Test.YtidlfbemamoflaaProg
import Derived.Test.YtidlfbemamoflaaBase
namespace Go.Proofs.Ytidlfbemamoflaa
open Go.RowKit

theorem elU32 : ElemT Try.prog 39 45 (.int .u32 0) 1 4 := ⟨Try.underlying39, by kernel_rfl, rfl, by decide⟩
end Go.Proofs.Ytidlfbemamoflaa
