/-
  The words of the rows, and the table of powers, as they lie.
-/
import Derived.Test.YthnlkpifafklkaaDoorTextP
import Derived.Lib.SmallJoins
import Derived.Lib.LaidTab
namespace Go.Proofs.YthnlkpifafklkaaDoor
open Go.RowKit Go.Lib

/-- the words of the rows, as they lie -/
def WordsIs (w : World) : Prop := ∀ k, k < 4 → ∃ b off cap, w.cell? ⟨0, k, none⟩ = some (.slice (some ⟨b, off, none⟩) (wordsOf k).length cap) ∧ ∀ i x, (wordsOf k)[i]? = some x → w.cell? ⟨b, off + i, none⟩ = some (.string (ba x))
theorem WordsIs.later {w w' : World} (h : WordsIs w) (hB : Below w.heap.size w w') : WordsIs w' := fun k hk => by
  obtain ⟨b, off, cap, h1, h2⟩ := h k hk
  exact ⟨b, off, cap, cellLater hB h1, fun i x hx => cellLater hB (h2 i x hx)⟩
/-- the table of powers that strconv reads -/
def TenIs (w : World) : Prop := Lib.TabIs Tryd.prog w "internal/strconv.uint64pow10" .u64 Lib.pow10Tab
theorem TenIs.later {w w' : World} (h : TenIs w) (hB : Below w.heap.size w w') : TenIs w' :=
  Go.Joins.var_stays (show Tryd.prog.globalNamed "internal/strconv.uint64pow10" = some 2 by kernel_rfl) h hB (Nat.le_refl _)
end Go.Proofs.YthnlkpifafklkaaDoor
