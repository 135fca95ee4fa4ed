/-
  The element types of slices, as the append law wants them. No statement of the seat is here.
-/
import Derived.Test.YtdppfjiphfeapaaProg
import Derived.Test.YtdppfjiphfeapaaBase
namespace Go.Proofs.Ytdppfjiphfeapaa
open Go.RowKit
set_option maxRecDepth 20000

end Go.Proofs.Ytdppfjiphfeapaa
