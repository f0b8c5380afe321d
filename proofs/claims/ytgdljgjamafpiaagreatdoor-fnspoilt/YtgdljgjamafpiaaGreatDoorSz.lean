/-
  The laws' own measure of an argument: what it answers, and that it leaves memory alone.
-/
import Derived.Test.YtgdljgjamafpiaaGreatDoorBase
namespace Go.Proofs.YtgdljgjamafpiaaGreatDoor
open Go.RowKit

end Go.Proofs.YtgdljgjamafpiaaGreatDoor
