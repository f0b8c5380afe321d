/-
  The model's Check over a right line and a plan of its shape.
-/
import Derived.Test.YtnjaegeapcijpaaDoorSpecC
import Derived.Test.YtnjaegeapcijpaaDoorSmall
import Derived.Test.YtnjaegeapcijpaaDoorPlainH
namespace Go.Proofs.YtnjaegeapcijpaaDoor
open Go.RowKit

end Go.Proofs.YtnjaegeapcijpaaDoor
