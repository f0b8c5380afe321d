/-
  The words of the rows, as they lie.
-/
import Derived.Test.YtgdljgjamafpiaaGreatDoorTextP
import Derived.Lib.SmallJoins
import Derived.Test.YtgdljgjamafpiaaGreatDoorWordsT
namespace Go.Proofs.YtgdljgjamafpiaaGreatDoor
open Go.RowKit Go.Lib

/-- the words of the rows, as they lie -/
def WordsIs (w : World) : Prop := ∀ k, k < 4 → ∃ b off cap, w.cell? ⟨1, k, none⟩ = some (.slice (some ⟨b, off, none⟩) (wordsOf k).length cap) ∧ ∀ i x, (wordsOf k)[i]? = some x → w.cell? ⟨b, off + i, none⟩ = some (.string (ba x))
theorem WordsIs.later {w w' : World} (h : WordsIs w) (hB : Below w.heap.size w w') : WordsIs w' := fun k hk => by
  obtain ⟨b, off, cap, h1, h2⟩ := h k hk
  exact ⟨b, off, cap, cellLater hB h1, fun i x hx => cellLater hB (h2 i x hx)⟩
end Go.Proofs.YtgdljgjamafpiaaGreatDoor
