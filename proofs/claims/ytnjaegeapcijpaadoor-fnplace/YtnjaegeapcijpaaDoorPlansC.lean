/-
  The laws' copy of a plan: its rows have room for what they hold.
-/
import Derived.Test.YtnjaegeapcijpaaDoorPlans
namespace Go.Proofs.YtnjaegeapcijpaaDoor
open Go.RowKit

def Caps (W : World) (c : Option Addr) (np : Nat) : Prop := ∀ j, j < np → ∃ b off la n lc, c = some ⟨b, off, none⟩ ∧ W.cell? ⟨b, off + j, none⟩ = some (.slice la n lc) ∧ n ≤ lc
theorem Caps.later {W W' : World} {c : Option Addr} {np : Nat} (h : Caps W c np) (hB : Below W.heap.size W W') : Caps W' c np := fun j hj => by
  obtain ⟨b, off, la, n, lc, e, hc, hl⟩ := h j hj
  exact ⟨b, off, la, n, lc, e, cellLater hB hc, hl⟩
theorem Caps.at {W : World} {b off np : Nat} (h : Caps W (some ⟨b, off, none⟩) np) {j : Nat} (hj : j < np) {la : Option Addr} {n lc : Nat} (hc : W.cell? ⟨b, off + j, none⟩ = some (.slice la n lc)) : n ≤ lc := by
  obtain ⟨b', off', la', n', lc', e, hc', hl⟩ := h j hj
  cases e
  rw [hc] at hc'
  cases hc'
  exact hl

end Go.Proofs.YtnjaegeapcijpaaDoor
