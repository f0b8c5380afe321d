/-
  The laws' own measure of an argument: what it answers, and that it leaves memory alone.
-/
import Derived.Test.YtnjaegeapcijpaaDoorBase
namespace Go.Proofs.YtnjaegeapcijpaaDoor
open Go.RowKit

end Go.Proofs.YtnjaegeapcijpaaDoor
