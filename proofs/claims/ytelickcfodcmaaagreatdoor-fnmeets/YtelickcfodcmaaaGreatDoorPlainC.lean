/-
  The first clash of a plan, as the document's second chapter has it, over plain data.
-/
import Derived.Test.YtelickcfodcmaaaGreatDoorPlainP
namespace Go.Proofs.YtelickcfodcmaaaGreatDoor

/-- the first place, by row and then within it, at which p is false -/
def first2 (n : Nat) (len : Nat → Nat) (p : Nat → Nat → Bool) : Option (Nat × Nat) :=
  match firstBad (fun i => (firstBad (p i) (len i)).isNone) n with
  | none => none
  | some i => match firstBad (p i) (len i) with
    | none => none
    | some k => some (i, k)
theorem first2_none {n : Nat} {len : Nat → Nat} {p : Nat → Nat → Bool} (h : ∀ i, i < n → ∀ k, k < len i → p i k = true) : first2 n len p = none := by
  unfold first2
  rw [firstBad_none (p := fun i => (firstBad (p i) (len i)).isNone) (fun i hi => by show (firstBad (p i) (len i)).isNone = true; rw [firstBad_none (h i hi)]; rfl)]
theorem first2_some {n : Nat} {len : Nat → Nat} {p : Nat → Nat → Bool} {i k : Nat} (hi : i < n) (hk : k < len i) (hb : p i k = false) (hrow : ∀ m, m < k → p i m = true) (h : ∀ j, j < i → ∀ m, m < len j → p j m = true) : first2 n len p = some (i, k) := by
  unfold first2
  have e : firstBad (p i) (len i) = some k := firstBad_some hb hrow hk
  rw [firstBad_some (p := fun i => (firstBad (p i) (len i)).isNone) (k := i) (by show (firstBad (p i) (len i)).isNone = false; rw [e]; rfl) (fun j hj => by show (firstBad (p j) (len j)).isNone = true; rw [firstBad_none (h j hj)]; rfl) hi]
  simp only [e]

/-- leg k of train i begins on a track that train j has by its leg m -/
def onB (gap : Int) (f : Nat → TrainD) (P : Nat → RowD) (i k j m : Nat) : Bool :=
  decide (i ≠ j ∧ trackOf (f i) k = trackOf (f j) m ∧ (P j).s m ≤ (P i).s k ∧ ¬ ((P j).s m = (P i).s k ∧ i < j) ∧ (P i).s k < (P j).s m + ((f j).leg m).run + gap)
/-- train j has the track by none of its legs -/
def freeOf (gap : Int) (f : Nat → TrainD) (P : Nat → RowD) (i k j : Nat) : Bool := (firstBad (fun m => !onB gap f P i k j m) (f j).nl).isNone
/-- the first train that has the track -/
def withOf (gap : Int) (ntr : Nat) (f : Nat → TrainD) (P : Nat → RowD) (i k : Nat) : Option Nat := firstBad (freeOf gap f P i k) ntr
/-- the first clash: its code, train, leg, and the other train -/
def clashOf (nt : Nat) (g : Nat → Int) (gap : Int) (ntr : Nat) (f : Nat → TrainD) (np : Nat) (P : Nat → RowD) : Int × Int × Int × Int :=
  if (faultOf nt g gap ntr f).1 = 0 ∧ shapeB ntr f np P = true then
    match first2 ntr (fun i => (f i).nl) (fun i k => decide (readyOf f P i k ≤ (P i).s k)) with
    | some (i, k) => (2, i, k, 0)
    | none => match first2 ntr (fun i => (f i).nl) (fun i k => (withOf gap ntr f P i k).isNone) with
      | some (i, k) => (3, i, k, ((withOf gap ntr f P i k).getD 0 : Nat))
      | none => match first2 ntr (fun i => (f i).nl) (fun i k => !fullB g ntr f P i k) with
        | some (i, k) => (4, i, k, 0)
        | none => (0, 0, 0, 0)
  else (1, 0, 0, 0)

section
variable {nt : Nat} {g : Nat → Int} {gap : Int} {ntr : Nat} {f : Nat → TrainD} {np : Nat} {P : Nat → RowD}
theorem clashOf_two (hF : faultOf nt g gap ntr f = (0, 0)) (hS : shapeB ntr f np P = true) {i k : Nat} (hi : i < ntr) (hk : k < (f i).nl) (hb : (P i).s k < readyOf f P i k) (hrow : ∀ m, m < k → readyOf f P i m ≤ (P i).s m) (h : ∀ j, j < i → ∀ m, m < (f j).nl → readyOf f P j m ≤ (P j).s m) :
    clashOf nt g gap ntr f np P = (2, (i : Int), (k : Int), 0) := by
  unfold clashOf
  rw [if_pos ⟨by rw [hF], hS⟩, first2_some (p := fun i k => decide (readyOf f P i k ≤ (P i).s k)) hi hk (decide_eq_false (by omega)) (fun m hm => decide_eq_true (hrow m hm)) (fun j hj m hm => decide_eq_true (h j hj m hm))]
theorem clashOf_three (hF : faultOf nt g gap ntr f = (0, 0)) (hS : shapeB ntr f np P = true) (h2 : ∀ j, j < ntr → ∀ m, m < (f j).nl → readyOf f P j m ≤ (P j).s m) {i k j : Nat} (hi : i < ntr) (hk : k < (f i).nl) (hj : withOf gap ntr f P i k = some j) (hrow : ∀ m, m < k → withOf gap ntr f P i m = none) (h : ∀ j, j < i → ∀ m, m < (f j).nl → withOf gap ntr f P j m = none) :
    clashOf nt g gap ntr f np P = (3, (i : Int), (k : Int), (j : Int)) := by
  unfold clashOf
  rw [if_pos ⟨by rw [hF], hS⟩, first2_none (p := fun i k => decide (readyOf f P i k ≤ (P i).s k)) (fun j hj m hm => decide_eq_true (h2 j hj m hm)),
    first2_some (p := fun i k => (withOf gap ntr f P i k).isNone) hi hk (by show (withOf gap ntr f P i k).isNone = false; rw [hj]; rfl) (fun m hm => by show (withOf gap ntr f P i m).isNone = true; rw [hrow m hm]; rfl) (fun j hj m hm => by show (withOf gap ntr f P j m).isNone = true; rw [h j hj m hm]; rfl)]
  simp only [hj, Option.getD_some]
theorem clashOf_four (hF : faultOf nt g gap ntr f = (0, 0)) (hS : shapeB ntr f np P = true) (h2 : ∀ j, j < ntr → ∀ m, m < (f j).nl → readyOf f P j m ≤ (P j).s m) (h3 : ∀ j, j < ntr → ∀ m, m < (f j).nl → withOf gap ntr f P j m = none) {i k : Nat} (hi : i < ntr) (hk : k < (f i).nl) (hb : fullB g ntr f P i k = true) (hrow : ∀ m, m < k → fullB g ntr f P i m = false) (h : ∀ j, j < i → ∀ m, m < (f j).nl → fullB g ntr f P j m = false) :
    clashOf nt g gap ntr f np P = (4, (i : Int), (k : Int), 0) := by
  unfold clashOf
  rw [if_pos ⟨by rw [hF], hS⟩, first2_none (p := fun i k => decide (readyOf f P i k ≤ (P i).s k)) (fun j hj m hm => decide_eq_true (h2 j hj m hm)),
    first2_none (p := fun i k => (withOf gap ntr f P i k).isNone) (fun j hj m hm => by show (withOf gap ntr f P j m).isNone = true; rw [h3 j hj m hm]; rfl),
    first2_some (p := fun i k => !fullB g ntr f P i k) hi hk (by simp [hb]) (fun m hm => by simp [hrow m hm]) (fun j hj m hm => by simp [h j hj m hm])]
theorem clashOf_zero (hF : faultOf nt g gap ntr f = (0, 0)) (hS : shapeB ntr f np P = true) (h2 : ∀ j, j < ntr → ∀ m, m < (f j).nl → readyOf f P j m ≤ (P j).s m) (h3 : ∀ j, j < ntr → ∀ m, m < (f j).nl → withOf gap ntr f P j m = none) (h4 : ∀ j, j < ntr → ∀ m, m < (f j).nl → fullB g ntr f P j m = false) :
    clashOf nt g gap ntr f np P = (0, 0, 0, 0) := by
  unfold clashOf
  rw [if_pos ⟨by rw [hF], hS⟩, first2_none (p := fun i k => decide (readyOf f P i k ≤ (P i).s k)) (fun j hj m hm => decide_eq_true (h2 j hj m hm)),
    first2_none (p := fun i k => (withOf gap ntr f P i k).isNone) (fun j hj m hm => by show (withOf gap ntr f P j m).isNone = true; rw [h3 j hj m hm]; rfl),
    first2_none (p := fun i k => !fullB g ntr f P i k) (fun j hj m hm => by simp [h4 j hj m hm])]
/-- train j has the track by none of its legs ..: from the loops' words to the def's -/
theorem freeOf_true {i k j : Nat} (h : ∀ m, m < (f j).nl → onB gap f P i k j m = false) : freeOf gap f P i k j = true := by
  unfold freeOf; rw [firstBad_none (p := fun m => !onB gap f P i k j m) (fun m hm => by simp [h m hm])]; rfl
theorem withOf_none {i k : Nat} (h : ∀ j, j < ntr → ∀ m, m < (f j).nl → onB gap f P i k j m = false) : withOf gap ntr f P i k = none := firstBad_none (fun j hj => freeOf_true (h j hj))
theorem withOf_some {i k j m : Nat} (hj : j < ntr) (hm : m < (f j).nl) (hb : onB gap f P i k j m = true) (hrow : ∀ q, q < m → onB gap f P i k j q = false) (h : ∀ q, q < j → ∀ m, m < (f q).nl → onB gap f P i k q m = false) : withOf gap ntr f P i k = some j := by
  refine firstBad_some ?_ (fun q hq => freeOf_true (h q hq)) hj
  show (firstBad (fun m => !onB gap f P i k j m) (f j).nl).isNone = false
  rw [firstBad_some (p := fun m => !onB gap f P i k j m) (k := m) (by simp [hb]) (fun q hq => by simp [hrow q hq]) hm]; rfl
end
end Go.Proofs.YtelickcfodcmaaaGreatDoor
