/-
  The model's Check, at every argument; the laws' comparison of two clashes.
-/
import Derived.Test.YtnjaegeapcijpaaDoorSpecD
namespace Go.Proofs.YtnjaegeapcijpaaDoor
open Go.RowKit

end Go.Proofs.YtnjaegeapcijpaaDoor
