/-
  The element types of slices, as the append law wants them. No statement of the seat is here.
-/
import Derived.Test.YtepogmnodmoebaaProg
import Derived.Test.YtepogmnodmoebaaBase
namespace Go.Proofs.Ytepogmnodmoebaa
open Go.RowKit

theorem elBool : ElemT Try.prog 25 4 (.bool false) 1 1 := ⟨Try.underlying25, by kernel_rfl, rfl, by decide⟩
theorem elByte : ElemT Try.prog 22 5 (.int .u8 0) 1 1 := ⟨Try.underlying22, by kernel_rfl, rfl, by decide⟩
theorem elInt : ElemT Try.prog 42 3 (.int .i64 0) 1 8 := ⟨Try.underlying42, by kernel_rfl, rfl, by decide⟩
end Go.Proofs.Ytepogmnodmoebaa
