/-
  The element types of slices, as the append law wants them. No statement of the seat is here.
-/
import Derived.Test.YtllloipjaeljlaaProg
import Derived.Test.YtllloipjaeljlaaBase
namespace Go.Proofs.Ytllloipjaeljlaa
open Go.RowKit

theorem elBool : ElemT Try.prog 22 4 (.bool false) 1 1 := ⟨Try.underlying22, by kernel_rfl, rfl, by decide⟩
theorem elInt : ElemT Try.prog 36 3 (.int .i64 0) 1 8 := ⟨Try.underlying36, by kernel_rfl, rfl, by decide⟩
end Go.Proofs.Ytllloipjaeljlaa
