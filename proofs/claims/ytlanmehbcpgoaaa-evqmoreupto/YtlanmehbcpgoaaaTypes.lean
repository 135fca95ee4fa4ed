/-
  The element types of slices, as the append law wants them. No statement of the seat is here.
-/
import Derived.Test.YtlanmehbcpgoaaaProg
import Derived.Test.YtlanmehbcpgoaaaBase
namespace Go.Proofs.Ytlanmehbcpgoaaa
open Go.RowKit

theorem elInt : ElemT Try.prog 24 3 (.int .i64 0) 1 8 := ⟨Try.underlying24, by kernel_rfl, rfl, by decide⟩
end Go.Proofs.Ytlanmehbcpgoaaa
