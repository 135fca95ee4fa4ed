/-
  The element types of slices, as the append law wants them. No statement of the seat is here.
-/
import Derived.Test.YtjimajjmckjflaaProg
import Derived.Test.YtjimajjmckjflaaBase
namespace Go.Proofs.Ytjimajjmckjflaa
open Go.RowKit

theorem elBool : ElemT Try.prog 46 4 (.bool false) 1 1 := ⟨Try.underlying46, by kernel_rfl, rfl, by decide⟩
theorem elInt : ElemT Try.prog 22 3 (.int .i64 0) 1 8 := ⟨Try.underlying22, by kernel_rfl, rfl, by decide⟩
theorem elU32 : ElemT Try.prog 48 63 (.int .u32 0) 1 4 := ⟨Try.underlying48, by kernel_rfl, rfl, by decide⟩
end Go.Proofs.Ytjimajjmckjflaa
