/-
  The model's word on whether a line is right.
-/
import Derived.Test.YtelickcfodcmaaaGreatDoorRight
import Derived.Test.YtelickcfodcmaaaGreatDoorSpecL
namespace Go.Proofs.YtelickcfodcmaaaGreatDoor
open Go.RowKit

set_option maxHeartbeats 1000000 in
theorem l1ok_yes (a : Option Addr) (len cap : Nat) (g : Nat → Int) (gap : Int) (a' : Option Addr) (len' cap' : Nat) (f : Nat → TrainD) (w : World) (hl : len ≤ 1048576) (hl' : len' ≤ 1048576) (hml : ∀ j, j < len' → (f j).nl ≤ 1048576)
    (hI : IsInts 0 w.heap.size w a len g) (hT : IsTrains 0 w.heap.size w a' len' f) (hF : Hid (faultOf len g gap len' f = (0, 0))) :
    Calls Tryz.prog 29 #[.agg #[.slice a len cap, .int .i64 gap, .slice a' len' cap']] w fun e w' => e = .returned (.bool true) ∧ Below w.heap.size w w' := by
  have hs : ∀ W : World, Below w.heap.size w W → Calls Tryz.prog 61 #[.agg #[.slice a len cap, .int .i64 gap, .slice a' len' cap']] W fun e w' => e = .returned (.agg #[.int .i64 0, .int .i64 0]) ∧ Below W.heap.size W w' := fun W hB => by
    have h := specOk_any a len cap g gap a' len' cap' f W hl hl' hml (hI.grow hB) (hT.grow hB)
    rw [hF.out] at h; exact h
  go_enter Tryz.func29, Tryz.ntmps29
  go_wp2_with (go_at_call 61; refine (hs _ (b1 _ _)).mono ?_; clear hs; rintro e w2 ⟨rfl, hB2⟩)
  go_ret
  exact ⟨rfl, (Below.join (b1 _ _) (Nat.le_refl _) hB2).alloc (Below.join (b1 _ _) (Nat.le_refl _) hB2).size _⟩

set_option maxHeartbeats 1000000 in
theorem l1ok_no (a : Option Addr) (len cap : Nat) (g : Nat → Int) (gap : Int) (a' : Option Addr) (len' cap' : Nat) (f : Nat → TrainD) (w : World) (hl : len ≤ 1048576) (hl' : len' ≤ 1048576) (hml : ∀ j, j < len' → (f j).nl ≤ 1048576)
    (hI : IsInts 0 w.heap.size w a len g) (hT : IsTrains 0 w.heap.size w a' len' f) (hF : (faultOf len g gap len' f).1 ≠ 0) :
    Calls Tryz.prog 29 #[.agg #[.slice a len cap, .int .i64 gap, .slice a' len' cap']] w fun e w' => e = .returned (.bool false) ∧ Below w.heap.size w w' := by
  have hF' : ((faultOf len g gap len' f).1 == 0) = false := by simpa using hF
  go_enter Tryz.func29, Tryz.ntmps29
  go_wp2_with (go_at_call 61; refine (specOk_any _ _ _ g _ _ _ _ f _ hl hl' hml (hI.grow (b1 _ _)) (hT.grow (b1 _ _))).mono ?_; rintro e w2 ⟨rfl, hB2⟩)
  go_ret
  exact ⟨rfl, (Below.join (b1 _ _) (Nat.le_refl _) hB2).alloc (Below.join (b1 _ _) (Nat.le_refl _) hB2).size _⟩

end Go.Proofs.YtelickcfodcmaaaGreatDoor
