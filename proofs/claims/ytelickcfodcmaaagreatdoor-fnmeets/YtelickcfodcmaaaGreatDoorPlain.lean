/-
  What a right line is, as the document's first chapter has it, over plain data.
-/
import Derived.Test.YtelickcfodcmaaaGreatDoorBase
namespace Go.Proofs.YtelickcfodcmaaaGreatDoor

/-- where the train is ahead of its k-th leg -/
def cur (t : TrainD) : Nat → Int
  | 0 => t.frm
  | k + 1 => (t.leg k).to
def nextTo (a b : Int) : Bool := decide (b = a + 1 ∨ b = a - 1)
def legB (n : Nat) (at_ : Int) (l : LegD) : Bool := inB l.to 0 (n - 1) && nextTo at_ l.to && inB l.run 1 10000 && inB l.stay 0 10000
def legsB (n : Nat) (t : TrainD) : Bool := decide (∀ j, j < t.nl → legB n (cur t j) (t.leg j) = true)
def trainB (n : Nat) (t : TrainD) : Bool := inB t.frm 0 (n - 1) && inB t.ready 0 100000 && inB t.due 0 100000 && inB t.weight 1 100 && decide (0 < t.nl) && legsB n t
def legSum (f : Nat → TrainD) : Nat → Nat
  | 0 => 0
  | k + 1 => legSum f k + (f k).nl
def firstBad (p : Nat → Bool) : Nat → Option Nat
  | 0 => none
  | n + 1 => match firstBad p n with
    | some i => some i
    | none => if p n then none else some n
theorem firstBad_none {p : Nat → Bool} : ∀ {n : Nat}, (∀ j, j < n → p j = true) → firstBad p n = none
  | 0, _ => rfl
  | n + 1, h => by simp [firstBad, firstBad_none (n := n) (fun j hj => h j (by omega)), h n (by omega)]
theorem firstBad_some {p : Nat → Bool} {k : Nat} (hk : p k = false) (h : ∀ j, j < k → p j = true) : ∀ {n : Nat}, k < n → firstBad p n = some k
  | 0, hn => by omega
  | n + 1, hn => by
    by_cases e : k = n
    · subst e; simp [firstBad, firstBad_none h, hk]
    · simp [firstBad, firstBad_some hk h (n := n) (by omega)]
/-- the first fault of a line: its code and its place -/
def faultOf (nt : Nat) (g : Nat → Int) (gap : Int) (ntr : Nat) (f : Nat → TrainD) : Int × Int :=
  if inB nt 2 12 = true ∧ inB gap 0 10000 = true ∧ ntr ≤ 5 ∧ legSum f ntr ≤ 10 then
    match firstBad (fun i => inB (g i) 1 10) nt with
    | some i => (2, i)
    | none => match firstBad (fun i => trainB nt (f i)) ntr with
      | some i => (3, i)
      | none => (0, 0)
  else (1, 0)
theorem faultOf_one {nt : Nat} {g : Nat → Int} {gap : Int} {ntr : Nat} {f : Nat → TrainD} (h : ¬ (inB nt 2 12 = true ∧ inB gap 0 10000 = true ∧ ntr ≤ 5 ∧ legSum f ntr ≤ 10)) : faultOf nt g gap ntr f = (1, 0) := by
  unfold faultOf; rw [if_neg h]
theorem faultOf_two {nt : Nat} {g : Nat → Int} {gap : Int} {ntr : Nat} {f : Nat → TrainD} (h : inB nt 2 12 = true ∧ inB gap 0 10000 = true ∧ ntr ≤ 5 ∧ legSum f ntr ≤ 10) {k : Nat} (hk : k < nt) (hb : inB (g k) 1 10 = false) (ha : ∀ j, j < k → inB (g j) 1 10 = true) : faultOf nt g gap ntr f = (2, (k : Int)) := by
  unfold faultOf; rw [if_pos h, firstBad_some (p := fun i => inB (g i) 1 10) hb ha hk]
theorem faultOf_three {nt : Nat} {g : Nat → Int} {gap : Int} {ntr : Nat} {f : Nat → TrainD} (h : inB nt 2 12 = true ∧ inB gap 0 10000 = true ∧ ntr ≤ 5 ∧ legSum f ntr ≤ 10) (hT : ∀ j, j < nt → inB (g j) 1 10 = true) {k : Nat} (hk : k < ntr) (hb : trainB nt (f k) = false) (ha : ∀ j, j < k → trainB nt (f j) = true) : faultOf nt g gap ntr f = (3, (k : Int)) := by
  unfold faultOf; rw [if_pos h, firstBad_none (p := fun i => inB (g i) 1 10) hT, firstBad_some (p := fun i => trainB nt (f i)) hb ha hk]
theorem faultOf_zero {nt : Nat} {g : Nat → Int} {gap : Int} {ntr : Nat} {f : Nat → TrainD} (h : inB nt 2 12 = true ∧ inB gap 0 10000 = true ∧ ntr ≤ 5 ∧ legSum f ntr ≤ 10) (hT : ∀ j, j < nt → inB (g j) 1 10 = true) (ha : ∀ j, j < ntr → trainB nt (f j) = true) : faultOf nt g gap ntr f = (0, 0) := by
  unfold faultOf; rw [if_pos h, firstBad_none (p := fun i => inB (g i) 1 10) hT, firstBad_none (p := fun i => trainB nt (f i)) ha]
theorem legSum_le {f : Nat → TrainD} : ∀ {n : Nat}, (∀ j, j < n → (f j).nl ≤ 1048576) → ∀ k, k ≤ n → legSum f k ≤ k * 1048576
  | _, _, 0, _ => by simp [legSum]
  | n, h, k + 1, hk => by
    have := legSum_le h k (by omega)
    have := h k (by omega)
    simp only [legSum]; omega
theorem faultOf_snd {nt : Nat} {g : Nat → Int} {gap : Int} {ntr : Nat} {f : Nat → TrainD} (h : (faultOf nt g gap ntr f).1 = 0) : faultOf nt g gap ntr f = (0, 0) := by
  unfold faultOf at h ⊢
  split at h
  · rename_i hok
    rw [if_pos hok]
    cases h1 : firstBad (fun i => inB (g i) 1 10) nt with
    | some i => rw [h1] at h; simp at h
    | none =>
      rw [h1] at h
      cases h2 : firstBad (fun i => trainB nt (f i)) ntr with
      | some i => rw [h2] at h; simp at h
      | none => rfl
  · simp at h
end Go.Proofs.YtelickcfodcmaaaGreatDoor
