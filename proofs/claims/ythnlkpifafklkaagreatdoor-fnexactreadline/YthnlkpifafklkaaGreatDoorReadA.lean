/-
  The program's reader: it leaves.
-/
import Derived.Test.YthnlkpifafklkaaGreatDoorPlainY
import Derived.Test.YthnlkpifafklkaaGreatDoorTo
import Derived.WalkLawsBesides
namespace Go.Proofs.YthnlkpifafklkaaGreatDoor
open Go.RowKit

theorem leave_any (b : Nat) (row : Int) (w : World) (h1 : w.cell? ⟨b, 1, none⟩ = some (.int .i64 row)) :
    Calls Tryz.prog 137 #[.pointer (some ⟨b, 0, none⟩)] w fun e w' => e = .panicked [{ v := .iface 123 (.agg #[.int .i64 row]), recovered := false }] ∧ w' = w := by
  go_enter Tryz.func137, Tryz.ntmps137
  go_wp2
  exact ⟨rfl, rfl, rfl⟩
end Go.Proofs.YthnlkpifafklkaaGreatDoor
