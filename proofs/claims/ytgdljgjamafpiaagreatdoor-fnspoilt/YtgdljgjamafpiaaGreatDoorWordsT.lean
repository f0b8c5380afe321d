/-
  The table of powers, as it lies.
-/
import Derived.Test.YtgdljgjamafpiaaGreatDoorTextP
import Derived.Lib.SmallJoins
import Derived.Lib.LaidTab
namespace Go.Proofs.YtgdljgjamafpiaaGreatDoor
open Go.RowKit Go.Lib

/-- the table of powers that strconv reads -/
def TenIs (w : World) : Prop := Lib.TabIs Tryz.prog w "internal/strconv.uint64pow10" .u64 Lib.pow10Tab
theorem TenIs.later {w w' : World} (h : TenIs w) (hB : Below w.heap.size w w') : TenIs w' :=
  Go.Joins.var_stays (show Tryz.prog.globalNamed "internal/strconv.uint64pow10" = some 2 by kernel_rfl) h hB (Nat.le_refl _)
end Go.Proofs.YtgdljgjamafpiaaGreatDoor
