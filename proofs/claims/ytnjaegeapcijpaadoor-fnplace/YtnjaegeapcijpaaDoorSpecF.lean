/-
  The model's word on a station that is too full.
-/
import Derived.Test.YtnjaegeapcijpaaDoorSpecQ
namespace Go.Proofs.YtnjaegeapcijpaaDoor
open Go.RowKit

end Go.Proofs.YtnjaegeapcijpaaDoor
