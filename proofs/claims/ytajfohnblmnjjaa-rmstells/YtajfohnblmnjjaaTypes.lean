/-
  The element types of slices, as the append law wants them. No statement of the seat is here.
-/
import Derived.Test.YtajfohnblmnjjaaProg
import Derived.Test.YtajfohnblmnjjaaBase
namespace Go.Proofs.Ytajfohnblmnjjaa
open Go.RowKit

theorem elInt : ElemT Try.prog 40 3 (.int .i64 0) 1 8 := ⟨Try.underlying40, by kernel_rfl, rfl, by decide⟩
theorem elU32 : ElemT Try.prog 65 84 (.int .u32 0) 1 4 := ⟨Try.underlying65, by kernel_rfl, rfl, by decide⟩
end Go.Proofs.Ytajfohnblmnjjaa
