/-
  The model's Check, at every argument; the laws' comparison of two clashes.
-/
import Derived.Test.YthnlkpifafklkaaGreatDoorSpecD
namespace Go.Proofs.YthnlkpifafklkaaGreatDoor
open Go.RowKit

/-- the model's Check -/
theorem specCheck_any (a : Option Addr) (len cap : Nat) (g : Nat → Int) (gap : Int) (a' : Option Addr) (len' cap' : Nat) (f : Nat → TrainD) (c : Option Addr) (np nc : Nat) (P : Nat → RowD) (w : World) (hl : len ≤ 1048576) (hl' : len' ≤ 1048576) (hml : ∀ j, j < len' → (f j).nl ≤ 1048576) (hp : np ≤ 1048576) (hmp : ∀ j, j < np → (P j).n ≤ 1048576)
    (hI : IsInts 0 w.heap.size w a len g) (hT : IsTrains 0 w.heap.size w a' len' f) (hP : IsRows 0 w.heap.size w c np P) :
    Calls Tryz.prog 50 #[.agg #[.slice a len cap, .int .i64 gap, .slice a' len' cap'], .agg #[.slice c np nc]] w fun e w' => e = .returned (.agg #[.int .i64 (clashOf len g gap len' f np P).1, .int .i64 (clashOf len g gap len' f np P).2.1, .int .i64 (clashOf len g gap len' f np P).2.2.1, .int .i64 (clashOf len g gap len' f np P).2.2.2]) ∧ Below w.heap.size w w' := by
  by_cases hF : (faultOf len g gap len' f).1 = 0
  · have hF0 := faultOf_snd hF
    cases hS : shapeB len' f np P
    · have e : clashOf len g gap len' f np P = (1, 0, 0, 0) := by unfold clashOf; rw [if_neg (by simp [hS])]
      rw [e]
      exact specCheck_shape a len cap g gap a' len' cap' f c np nc P w hl hl' hml hp hmp hI hT hP hF0 hS
    · exact specCheck_main a len cap g gap a' len' cap' f c np nc P w hl hl' hml hp hmp hI hT hP hF0 hS _ rfl
  · have e : clashOf len g gap len' f np P = (1, 0, 0, 0) := by unfold clashOf; rw [if_neg (by simp [hF])]
    rw [e]
    exact specCheck_line a len cap g gap a' len' cap' f c np nc w hl hl' hml hI hT hF
end Go.Proofs.YthnlkpifafklkaaGreatDoor
