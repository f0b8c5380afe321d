/-
  What lateness costs, by a plan.
-/
import Derived.Test.YtelickcfodcmaaaGreatDoorSpecQ
import Derived.Test.YtelickcfodcmaaaGreatDoorPlainC
namespace Go.Proofs.YtelickcfodcmaaaGreatDoor
open Go.RowKit

theorem lateOf_bdP {t : TrainD} (h : RightT t) {e : Int} (_h0 : 0 ≤ e) (h1 : e ≤ 1010000) : 0 ≤ lateOf t e ∧ lateOf t e ≤ 101000000 := by
  have hd := h.d0
  have hw := h.w0
  have hw1 := h.w1
  unfold lateOf
  split
  · omega
  · constructor
    · exact Int.mul_nonneg (by omega) (by omega)
    · have : t.weight * (e - t.due) ≤ 100 * 1010000 := Int.mul_le_mul hw1 (by omega) (by omega) (by omega)
      omega
/-- when a train is at its end by a plan of the right shape -/
def endP (f : Nat → TrainD) (P : Nat → RowD) (i : Nat) : Int := (P i).s ((f i).nl - 1) + ((f i).leg ((f i).nl - 1)).run
def costP (f : Nat → TrainD) (P : Nat → RowD) : Nat → Int
  | 0 => 0
  | k + 1 => costP f P k + lateOf (f k) (endP f P k)
def costOf (nt : Nat) (g : Nat → Int) (gap : Int) (ntr : Nat) (f : Nat → TrainD) (np : Nat) (P : Nat → RowD) : Int :=
  if clashOf nt g gap ntr f np P = (0, 0, 0, 0) then costP f P ntr else -1
theorem endP_bd {len np : Nat} {f : Nat → TrainD} {P : Nat → RowD} (hR : RightL len np f) (hQ : RightP np f np P) {i : Nat} (hi : i < np) : 0 ≤ endP f P i ∧ endP f P i ≤ 1010000 := by
  have hp := hR.pos i hi
  have h1 := (hR.train i hi).leg ((f i).nl - 1) (by omega)
  have h2 := hQ.at0 i hi ((f i).nl - 1) (by omega)
  unfold endP
  omega
theorem costP_bd {len np : Nat} {f : Nat → TrainD} {P : Nat → RowD} (hR : RightL len np f) (hQ : RightP np f np P) : ∀ k, k ≤ np → 0 ≤ costP f P k ∧ costP f P k ≤ k * 101000000
  | 0, _ => by simp [costP]
  | k + 1, hk => by
    have h1 := costP_bd hR hQ k (by omega)
    have h2 := endP_bd hR hQ (i := k) (by omega)
    have h3 := lateOf_bdP (hR.train k (by omega)) h2.1 h2.2
    simp only [costP]; omega
theorem clashOf_or (nt : Nat) (g : Nat → Int) (gap : Int) (ntr : Nat) (f : Nat → TrainD) (np : Nat) (P : Nat → RowD) : clashOf nt g gap ntr f np P = (0, 0, 0, 0) ∨ (clashOf nt g gap ntr f np P).1 ≠ 0 := by
  unfold clashOf
  split
  · split
    · right; simp
    · split
      · right; simp
      · split
        · right; simp
        · left; rfl
  · right; simp
theorem clashOf_ok {nt : Nat} {g : Nat → Int} {gap : Int} {ntr : Nat} {f : Nat → TrainD} {np : Nat} {P : Nat → RowD} (h : clashOf nt g gap ntr f np P = (0, 0, 0, 0)) : (faultOf nt g gap ntr f).1 = 0 ∧ shapeB ntr f np P = true := by
  by_cases hh : (faultOf nt g gap ntr f).1 = 0 ∧ shapeB ntr f np P = true
  · exact hh
  · unfold clashOf at h
    rw [if_neg hh] at h
    simp at h
end Go.Proofs.YtelickcfodcmaaaGreatDoor
