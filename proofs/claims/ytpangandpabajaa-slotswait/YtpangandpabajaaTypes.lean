/-
  The element types of slices, as the append law wants them. No statement of the seat is here.
-/
import Derived.Test.YtpangandpabajaaProg
import Derived.Test.YtpangandpabajaaBase
namespace Go.Proofs.Ytpangandpabajaa
open Go.RowKit

theorem elInt : ElemT Try.prog 36 3 (.int .i64 0) 1 8 := ⟨Try.underlying36, by kernel_rfl, rfl, by decide⟩
end Go.Proofs.Ytpangandpabajaa
