/-
  The element types of slices, as the append law wants them. No statement of the seat is here.
-/
import Derived.Test.YtddegfgkkepliaaProg
import Derived.Test.YtddegfgkkepliaaBase
namespace Go.Proofs.Ytddegfgkkepliaa
open Go.RowKit

theorem elBool : ElemT Try.prog 41 4 (.bool false) 1 1 := ⟨Try.underlying41, by kernel_rfl, rfl, by decide⟩
theorem elInt : ElemT Try.prog 22 3 (.int .i64 0) 1 8 := ⟨Try.underlying22, by kernel_rfl, rfl, by decide⟩
theorem elU32 : ElemT Try.prog 43 59 (.int .u32 0) 1 4 := ⟨Try.underlying43, by kernel_rfl, rfl, by decide⟩
end Go.Proofs.Ytddegfgkkepliaa
