/-
  Which plan can be, as the document's second chapter has it, over plain data.
-/
import Derived.Test.YtelickcfodcmaaaGreatDoorRight
import Derived.Test.YtelickcfodcmaaaGreatDoorPlans
namespace Go.Proofs.YtelickcfodcmaaaGreatDoor

/-- the track between two stations that a leg runs on, by the lower one -/
def trackOf (t : TrainD) (k : Nat) : Int := if (t.leg k).to < cur t k then (t.leg k).to else cur t k
def shapeB (ntr : Nat) (f : Nat → TrainD) (np : Nat) (P : Nat → RowD) : Bool :=
  decide (np = ntr ∧ ∀ i, i < np → (P i).n = (f i).nl ∧ ∀ k, k < (P i).n → inB ((P i).s k) 0 1000000 = true)
/-- when a train can begin a leg, for its own sake -/
def readyOf (f : Nat → TrainD) (P : Nat → RowD) (i : Nat) : Nat → Int
  | 0 => (f i).ready + ((f i).leg 0).stay
  | k + 1 => (P i).s k + ((f i).leg k).run + ((f i).leg (k + 1)).stay
/-- when a train leaves the station to which a leg leads -/
def leavesOf (f : Nat → TrainD) (P : Nat → RowD) (i k : Nat) : Int :=
  if k + 1 < (P i).n then (P i).s (k + 1) else (P i).s k + ((f i).leg k).run

/-- a plan of the right shape over a right line -/
structure RightP (ntr : Nat) (f : Nat → TrainD) (np : Nat) (P : Nat → RowD) : Prop where
  np : np = ntr
  row : ∀ i, i < ntr → (P i).n = (f i).nl
  at0 : ∀ i, i < ntr → ∀ k, k < (f i).nl → 0 ≤ (P i).s k ∧ (P i).s k ≤ 1000000
theorem rightP_of {ntr : Nat} {f : Nat → TrainD} {np : Nat} {P : Nat → RowD} (h : shapeB ntr f np P = true) : RightP ntr f np P := by
  obtain ⟨e, hh⟩ := of_decide_eq_true h
  subst e
  exact ⟨rfl, fun i hi => (hh i hi).1, fun i hi k hk => of_decide_eq_true ((hh i hi).2 k (by rw [(hh i hi).1]; exact hk))⟩

/-- when a train is at its end by a plan, or -1 -/
def arrivesOf (nt : Nat) (g : Nat → Int) (gap : Int) (ntr : Nat) (f : Nat → TrainD) (np : Nat) (P : Nat → RowD) (i : Int) : Int :=
  if (faultOf nt g gap ntr f).1 = 0 ∧ shapeB ntr f np P = true ∧ inB i 0 (ntr - 1) = true then (P i.toNat).s ((f i.toNat).nl - 1) + ((f i.toNat).leg ((f i.toNat).nl - 1)).run else -1

/-- a leg that has no track of the station to which train i's leg k leads, when that begins -/
def skipB (f : Nat → TrainD) (P : Nat → RowD) (i k j m : Nat) : Bool :=
  decide (((f j).leg m).to ≠ ((f i).leg k).to ∨ (P i).s k < (P j).s m ∨ ((P j).s m = (P i).s k ∧ i < j) ∨ (leavesOf f P j m < (P i).s k ∧ (j ≠ i ∨ m ≠ k)))
def countRow (f : Nat → TrainD) (P : Nat → RowD) (i k j : Nat) : Nat → Nat
  | 0 => 0
  | m + 1 => countRow f P i k j m + if skipB f P i k j m then 0 else 1
def countAll (f : Nat → TrainD) (P : Nat → RowD) (i k : Nat) : Nat → Nat
  | 0 => 0
  | j + 1 => countAll f P i k j + countRow f P i k j (f j).nl
theorem countRow_le (f : Nat → TrainD) (P : Nat → RowD) (i k j : Nat) : ∀ m, countRow f P i k j m ≤ m
  | 0 => Nat.le_refl _
  | m + 1 => by have := countRow_le f P i k j m; simp only [countRow]; split <;> omega
theorem countAll_le {f : Nat → TrainD} {P : Nat → RowD} {i k n : Nat} (h : ∀ j, j < n → (f j).nl ≤ 10) : ∀ j, j ≤ n → countAll f P i k j ≤ j * 10
  | 0, _ => by simp [countAll]
  | j + 1, hj => by
    have h1 := countAll_le (P := P) (i := i) (k := k) h j (by omega)
    have h2 := countRow_le f P i k j (f j).nl
    have h3 := h j (by omega)
    simp only [countAll]; omega
/-- too many trains have a station's tracks -/
def fullB (g : Nat → Int) (ntr : Nat) (f : Nat → TrainD) (P : Nat → RowD) (i k : Nat) : Bool := decide (g ((f i).leg k).to.toNat < (countAll f P i k ntr : Int))
end Go.Proofs.YtelickcfodcmaaaGreatDoor
