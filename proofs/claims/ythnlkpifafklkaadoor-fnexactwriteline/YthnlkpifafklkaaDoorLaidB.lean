/-
  Tables and rows of texts, as a world lays them.
-/
import Derived.Test.YthnlkpifafklkaaDoorLaid
import Derived.Lib.LaidTab
import Derived.Lib.SmallJoins
namespace Go.Proofs.YthnlkpifafklkaaDoor
open Go.ChangeShapes Go.WideShapes Go.ChangeAt Go.RowKit

/-- the cells of a datum of plain numbers -/
def dataCells : DataW Unit → Array Value
  | .agg l => (l.flatMap fun d => match d with
    | .lit x => [x.value]
    | .agg m => m.flatMap fun e => match e with
      | .lit x => [x.value]
      | _ => []
    | _ => []).toArray
  | _ => #[]
/-- a variable's cells, laid -/
def layVar (h : Array Obj) (g : Nat) (cs : Array Value) : Array Obj := h.modify g fun
  | .cells _ t frozen => .cells cs t frozen
  | o => o
/-- so many blocks has the settled world -/
noncomputable def lowB : Nat := (World.holding Tryd.prog default ⟨#[], #[], []⟩).heap.size
theorem laidMet_tail {x : String × DataW Unit} {l : List (String × DataW Unit)} {w : World} (h : laidMet Tryd.prog (x :: l) w) : laidMet Tryd.prog l w := by
  obtain ⟨ps, ⟨g, t, cs, fuel, p, q, h1, h2, h3, h4, h5, rfl⟩, hn, hr⟩ := h
  refine ⟨q, h5, (List.nodup_append.1 hn).2.1, fun b off hb => hr b off (List.mem_append_right _ hb)⟩
theorem handle_of {W : World} (h : handlesMet Tryd.prog [("errors.errorType", Rows.laid_errors_errorType)] W) : W.cell? ⟨1, 0, none⟩ = some (.iface 101 (.agg #[.pointer (some ⟨6, 70, none⟩)])) :=
  handle_of_laid (show laidMet Tryd.prog [] W ∧ handlesMet Tryd.prog [("errors.errorType", Rows.laid_errors_errorType)] W from ⟨laidMet_nil _ _, h⟩)
end Go.Proofs.YthnlkpifafklkaaDoor
