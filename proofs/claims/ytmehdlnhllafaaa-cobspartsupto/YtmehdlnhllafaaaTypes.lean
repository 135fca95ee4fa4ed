/-
  The element types of slices, as the append law wants them. No statement of the seat is here.
-/
import Derived.Test.YtmehdlnhllafaaaProg
import Derived.Test.YtmehdlnhllafaaaBase
namespace Go.Proofs.Ytmehdlnhllafaaa
open Go.RowKit

theorem elBool : ElemT Try.prog 27 4 (.bool false) 1 1 := ⟨Try.underlying27, by kernel_rfl, rfl, by decide⟩
theorem elByte : ElemT Try.prog 22 5 (.int .u8 0) 1 1 := ⟨Try.underlying22, by kernel_rfl, rfl, by decide⟩
theorem elRow : ElemT Try.prog 26 22 (.slice none 0 0) 1 24 := ⟨Try.underlying26, by kernel_rfl, rfl, by decide⟩
end Go.Proofs.Ytmehdlnhllafaaa
