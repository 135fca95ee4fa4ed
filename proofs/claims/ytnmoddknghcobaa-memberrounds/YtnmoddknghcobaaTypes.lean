/-
  The element types of slices, as the append law wants them. No statement of the seat is here.
-/
import Derived.Test.YtnmoddknghcobaaProg
import Derived.Test.YtnmoddknghcobaaBase
namespace Go.Proofs.Ytnmoddknghcobaa
open Go.RowKit

end Go.Proofs.Ytnmoddknghcobaa
