/-
  Plans as plain data, how they lie in memory; the laws' own measure, copy and comparison of a plan.
-/
import Derived.Test.YtelickcfodcmaaaGreatDoorSz
import Derived.Test.YtelickcfodcmaaaGreatDoorTo
import Derived.Test.YtelickcfodcmaaaGreatDoorEq
namespace Go.Proofs.YtelickcfodcmaaaGreatDoor
open Go.RowKit

/-- the world at hand by a letter -/
theorem nameW {P : Program} {c : Code} {Q : Exit → Act → World → Prop} {a : Act} {W : World} (h : ∀ W', W' = W → c.wp P Q a W') : c.wp P Q a W := h W rfl
structure RowD where
  n : Nat
  s : Nat → Int

def IsRows (m₀ n₀ : Nat) (W : World) (a : Option Addr) (len : Nat) (f : Nat → RowD) : Prop :=
  ∀ j, j < len → ∃ b off la lc, a = some ⟨b, off, none⟩ ∧ m₀ ≤ b ∧ b < n₀ ∧ W.cell? ⟨b, off + j, none⟩ = some (.slice la (f j).n lc) ∧ IsInts m₀ n₀ W la (f j).n (f j).s ∧ (f j).n ≤ maxLen
theorem IsRows.same {m₀ n₀ : Nat} {W W' : World} {a : Option Addr} {len : Nat} {f : Nat → RowD} (h : IsRows m₀ n₀ W a len f) (hs : Same m₀ n₀ W W') : IsRows m₀ n₀ W' a len f := fun j hj => by
  obtain ⟨b, off, la, lc, e, hm, hbn, h0, h5, h6⟩ := h j hj
  exact ⟨b, off, la, lc, e, hm, hbn, hs.cell hm hbn h0, h5.same hs, h6⟩
theorem IsRows.mono {m₀ n₀ m₁ n₁ : Nat} {W : World} {a : Option Addr} {len : Nat} {f : Nat → RowD} (h : IsRows m₀ n₀ W a len f) (hm : m₁ ≤ m₀) (hn : n₀ ≤ n₁) : IsRows m₁ n₁ W a len f := fun j hj => by
  obtain ⟨b, off, la, lc, e, hb0, hbn, h0, h5, h6⟩ := h j hj
  exact ⟨b, off, la, lc, e, by omega, by omega, h0, h5.mono hm hn, h6⟩
theorem IsRows.below {m₀ n₀ B : Nat} {W W' : World} {a : Option Addr} {len : Nat} {f : Nat → RowD} (h : IsRows m₀ n₀ W a len f) (hb : Below B W W') (hB : n₀ ≤ B) : IsRows m₀ n₀ W' a len f := h.same (Same.below hb hB)
theorem IsRows.grow {m₀ : Nat} {W W' : World} {a : Option Addr} {len : Nat} {f : Nat → RowD} (h : IsRows m₀ W.heap.size W a len f) (hb : Below W.heap.size W W') : IsRows m₀ W'.heap.size W' a len f := (h.below hb (Nat.le_refl _)).mono (Nat.le_refl _) hb.size

theorem Tryz.infoRow : (Tryz.prog.info? 23).map (fun i => (i.zero, i.size, i.bytes)) = some (some (.slice none 0 0), 1, 24) := by kernel_rfl

end Go.Proofs.YtelickcfodcmaaaGreatDoor
