/-
  Small laws on worlds that both sides of the second chapter use.
-/
import Derived.Test.YtelickcfodcmaaaGreatDoorBase
namespace Go.Proofs.YtelickcfodcmaaaGreatDoor
open Go.RowKit

theorem below_set4 {w W : World} {B : Nat} (h : Below B w W) {b : Nat} (hb : B ≤ b) (x0 x1 x2 x3 : Value) : Below B w ((((W.setCell ⟨b, 0, none⟩ x0).setCell ⟨b, 1, none⟩ x1).setCell ⟨b, 2, none⟩ x2).setCell ⟨b, 3, none⟩ x3) :=
  (((h.setCell (p := ⟨b, 0, none⟩) hb _).setCell (p := ⟨b, 1, none⟩) hb _).setCell (p := ⟨b, 2, none⟩) hb _).setCell (p := ⟨b, 3, none⟩) hb _
theorem below_drewN {B : Nat} {w W : World} (h : Below B w W) (n : Nat) : Below B w (W.drewN n) := ⟨h.os, h.tape, h.output, h.size, h.block⟩
end Go.Proofs.YtelickcfodcmaaaGreatDoor
