/-
  The laws' own measure of an argument: what it answers, and that it leaves memory alone.
-/
import Derived.Test.YtnjaegeapcijpaaGreatDoorBase
namespace Go.Proofs.YtnjaegeapcijpaaGreatDoor
open Go.RowKit

end Go.Proofs.YtnjaegeapcijpaaGreatDoor
