/-
  The element types of slices, as the append law wants them. No statement of the seat is here.
-/
import Derived.Test.YtolcfifbnmkfaaaProg
import Derived.Test.YtolcfifbnmkfaaaBase
namespace Go.Proofs.Ytolcfifbnmkfaaa
open Go.RowKit

theorem elBool : ElemT Try.prog 23 4 (.bool false) 1 1 := ⟨Try.underlying23, by kernel_rfl, rfl, by decide⟩
theorem elInt : ElemT Try.prog 22 3 (.int .i64 0) 1 8 := ⟨Try.underlying22, by kernel_rfl, rfl, by decide⟩
end Go.Proofs.Ytolcfifbnmkfaaa
