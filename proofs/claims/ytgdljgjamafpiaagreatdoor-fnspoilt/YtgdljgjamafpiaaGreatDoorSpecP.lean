/-
  The model's small functions of the second chapter: what each answers.
-/
import Derived.Test.YtgdljgjamafpiaaGreatDoorPlainP
import Derived.Test.YtgdljgjamafpiaaGreatDoorSpecK
import Derived.Deep.RegionHeld3
namespace Go.Proofs.YtgdljgjamafpiaaGreatDoor
open Go.RowKit

theorem ret_int {a b : Int} (h : a = b) : Ending.returned (.int .i64 a) = .returned (.int .i64 b) := by rw [h]

end Go.Proofs.YtgdljgjamafpiaaGreatDoor
