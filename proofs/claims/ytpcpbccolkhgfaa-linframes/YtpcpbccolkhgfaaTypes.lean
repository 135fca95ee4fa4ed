/-
  The element types of slices, as the append law wants them. No statement of the seat is here.
-/
import Derived.Test.YtpcpbccolkhgfaaProg
import Derived.Test.YtpcpbccolkhgfaaBase
namespace Go.Proofs.Ytpcpbccolkhgfaa
open Go.RowKit

theorem elBool : ElemT Try.prog 44 4 (.bool false) 1 1 := ⟨Try.underlying44, by kernel_rfl, rfl, by decide⟩
theorem elByte : ElemT Try.prog 22 5 (.int .u8 0) 1 1 := ⟨Try.underlying22, by kernel_rfl, rfl, by decide⟩
theorem elInt : ElemT Try.prog 47 3 (.int .i64 0) 1 8 := ⟨Try.underlying47, by kernel_rfl, rfl, by decide⟩
end Go.Proofs.Ytpcpbccolkhgfaa
