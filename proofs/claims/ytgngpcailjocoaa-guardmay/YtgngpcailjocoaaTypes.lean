/-
  The element types of slices, as the append law wants them. No statement of the seat is here.
-/
import Derived.Test.YtgngpcailjocoaaProg
import Derived.Test.YtgngpcailjocoaaBase
namespace Go.Proofs.Ytgngpcailjocoaa
open Go.RowKit

theorem elBool : ElemT Try.prog 24 4 (.bool false) 1 1 := ⟨Try.underlying24, by kernel_rfl, rfl, by decide⟩
theorem elInt : ElemT Try.prog 36 3 (.int .i64 0) 1 8 := ⟨Try.underlying36, by kernel_rfl, rfl, by decide⟩
end Go.Proofs.Ytgngpcailjocoaa
