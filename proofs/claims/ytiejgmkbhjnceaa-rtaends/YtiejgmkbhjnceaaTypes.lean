/-
  The element types of slices, as the append law wants them. No statement of the seat is here.
-/
import Derived.Test.YtiejgmkbhjnceaaProg
import Derived.Test.YtiejgmkbhjnceaaBase
namespace Go.Proofs.Ytiejgmkbhjnceaa
open Go.RowKit

theorem elInt : ElemT Try.prog 23 3 (.int .i64 0) 1 8 := ⟨Try.underlying23, by kernel_rfl, rfl, by decide⟩
end Go.Proofs.Ytiejgmkbhjnceaa
