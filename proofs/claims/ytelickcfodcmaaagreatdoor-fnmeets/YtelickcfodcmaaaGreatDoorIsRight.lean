/-
  The program's word on a line: is it right.
-/
import Derived.Test.YtelickcfodcmaaaGreatDoorImplK
namespace Go.Proofs.YtelickcfodcmaaaGreatDoor
open Go.RowKit Go.Shelf

set_option maxHeartbeats 1000000 in
theorem isRight_yes (a : Option Addr) (len cap : Nat) (g : Nat → Int) (gap : Int) (a' : Option Addr) (len' cap' : Nat) (f : Nat → TrainD) (w : World) (hl : len ≤ 1048576) (hl' : len' ≤ 1048576) (hml : ∀ j, j < len' → (f j).nl ≤ 1048576)
    (hI : IsInts 0 w.heap.size w a len g) (hT : IsTrains 0 w.heap.size w a' len' f) (hg : w.cell? ⟨0, 0, none⟩ = some (.iface 234 (.agg #[.pointer (some ⟨1, 165, none⟩)]))) (hF : Hid (faultOf len g gap len' f = (0, 0))) :
    Calls Tryz.prog 40 #[.agg #[.slice a len cap, .int .i64 gap, .slice a' len' cap']] w fun e w' => e = .returned (.bool true) ∧ Below w.heap.size w w' := by
  have hs : ∀ W : World, Below w.heap.size w W → Calls Tryz.prog 68 #[.agg #[.slice a len cap, .int .i64 gap, .slice a' len' cap']] W fun e w' => e = .returned (.agg #[.int .i64 0, .int .i64 0]) ∧ Below W.heap.size W w' := fun W hB => by
    have h := implOk_any a len cap g gap a' len' cap' f W hl hl' hml (hI.grow hB) (hT.grow hB) (cellLater hB hg)
    rw [hF.out] at h; exact h
  go_enter Tryz.func40, Tryz.ntmps40
  go_wp2_with (go_at_call 68; refine (hs _ (b1 _ _)).mono ?_; clear hs; rintro e w2 ⟨rfl, hB2⟩)
  go_ret
  exact ⟨rfl, Below.join (b1 _ _) (Nat.le_refl _) hB2⟩

set_option maxHeartbeats 1000000 in
theorem isRight_no (a : Option Addr) (len cap : Nat) (g : Nat → Int) (gap : Int) (a' : Option Addr) (len' cap' : Nat) (f : Nat → TrainD) (w : World) (hl : len ≤ 1048576) (hl' : len' ≤ 1048576) (hml : ∀ j, j < len' → (f j).nl ≤ 1048576)
    (hI : IsInts 0 w.heap.size w a len g) (hT : IsTrains 0 w.heap.size w a' len' f) (hg : w.cell? ⟨0, 0, none⟩ = some (.iface 234 (.agg #[.pointer (some ⟨1, 165, none⟩)]))) (hF : (faultOf len g gap len' f).1 ≠ 0) :
    Calls Tryz.prog 40 #[.agg #[.slice a len cap, .int .i64 gap, .slice a' len' cap']] w fun e w' => e = .returned (.bool false) ∧ Below w.heap.size w w' := by
  have hF' : ((faultOf len g gap len' f).1 == 0) = false := by simpa using hF
  have hg1 := cellLater (b1 w (.cells #[.slice a len cap, .int .i64 gap, .slice a' len' cap'] 26)) hg
  go_enter Tryz.func40, Tryz.ntmps40
  go_wp2_with (go_at_call 68; refine (implOk_any _ _ _ g _ _ _ _ f _ hl hl' hml (hI.grow (b1 _ _)) (hT.grow (b1 _ _)) hg1).mono ?_; rintro e w2 ⟨rfl, hB2⟩)
  go_ret
  exact ⟨rfl, Below.join (b1 _ _) (Nat.le_refl _) hB2⟩

end Go.Proofs.YtelickcfodcmaaaGreatDoor
