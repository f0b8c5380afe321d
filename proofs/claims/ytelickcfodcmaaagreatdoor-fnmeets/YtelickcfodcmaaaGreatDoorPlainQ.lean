/-
  Orders and their plans, as plain data: what has been placed, when the next leg can begin.
-/
import Derived.Test.YtelickcfodcmaaaGreatDoorPlainC
namespace Go.Proofs.YtelickcfodcmaaaGreatDoor
open Go.RowKit

/-- what has been placed so far -/
structure PartP (np : Nat) (f : Nat → TrainD) (P : Nat → RowD) (last : Int) : Prop where
  le : ∀ j, j < np → (P j).n ≤ (f j).nl
  at0 : ∀ j, j < np → ∀ m, m < (P j).n → 0 ≤ (P j).s m ∧ (P j).s m ≤ last
  l0 : 0 ≤ last
  l1 : last ≤ 600000
/-- when a train leaves the station to which a placed leg leads; none: not known yet -/
def leaveO (f : Nat → TrainD) (P : Nat → RowD) (j m : Nat) : Option Int :=
  if m + 1 < (P j).n then some ((P j).s (m + 1)) else if m + 1 < (f j).nl then none else some ((P j).s m + ((f j).leg m).run)
/-- this leg's train has a track of station s at a time -/
def hereB (f : Nat → TrainD) (P : Nat → RowD) (s t : Int) (j m : Nat) : Bool :=
  decide (((f j).leg m).to = s) && (match leaveO f P j m with | none => true | some e => decide (t ≤ e))
def thereRow (f : Nat → TrainD) (P : Nat → RowD) (s t : Int) (j : Nat) : Nat → Nat
  | 0 => 0
  | m + 1 => thereRow f P s t j m + (if hereB f P s t j m = true then 1 else 0)
def thereAll (f : Nat → TrainD) (P : Nat → RowD) (s t : Int) : Nat → Nat
  | 0 => 0
  | j + 1 => thereAll f P s t j + thereRow f P s t j (P j).n
theorem thereRow_le (f : Nat → TrainD) (P : Nat → RowD) (s t : Int) (j : Nat) : ∀ m, thereRow f P s t j m ≤ m
  | 0 => Nat.le_refl _
  | m + 1 => by have := thereRow_le f P s t j m; simp only [thereRow]; split <;> omega
theorem thereAll_le {f : Nat → TrainD} {P : Nat → RowD} {s t : Int} {n : Nat} (h : ∀ j, j < n → (P j).n ≤ 10) : ∀ j, j ≤ n → thereAll f P s t j ≤ j * 10
  | 0, _ => Nat.le_refl _
  | j + 1, hj => by
    have h0 := thereAll_le (f := f) (s := s) (t := t) h j (by omega)
    have h1 := thereRow_le f P s t j (P j).n
    have h2 := h j (by omega)
    simp only [thereAll]; omega
theorem thereRow_mono {f : Nat → TrainD} {P : Nat → RowD} {s t t' : Int} (h : t ≤ t') (j : Nat) : ∀ m, thereRow f P s t' j m ≤ thereRow f P s t j m
  | 0 => Nat.le_refl _
  | m + 1 => by
    have h0 := thereRow_mono (f := f) (P := P) (s := s) h j m
    have h1 : hereB f P s t' j m = true → hereB f P s t j m = true := by
      unfold hereB
      cases leaveO f P j m with
      | none => exact fun h => h
      | some e => simp only [Bool.and_eq_true, decide_eq_true_eq]; exact fun ⟨a, b⟩ => ⟨a, by omega⟩
    simp only [thereRow]
    by_cases e : hereB f P s t' j m = true
    · rw [if_pos e, if_pos (h1 e)]; omega
    · rw [if_neg e]; split <;> omega
theorem thereAll_mono {f : Nat → TrainD} {P : Nat → RowD} {s t t' : Int} (h : t ≤ t') : ∀ n, thereAll f P s t' n ≤ thereAll f P s t n
  | 0 => Nat.le_refl _
  | n + 1 => by
    have h0 := thereAll_mono (f := f) (P := P) (s := s) h n
    have h1 := thereRow_mono (f := f) (P := P) (s := s) h n (P n).n
    simp only [thereAll]; omega
/-- as long as none leaves between them, two times have as many there -/
theorem thereRow_same {f : Nat → TrainD} {P : Nat → RowD} {s t t' : Int} (h : t ≤ t') (j : Nat) : ∀ m, (∀ k, k < m → ((f j).leg k).to = s → ∀ e, leaveO f P j k = some e → t ≤ e → t' ≤ e) → thereRow f P s t' j m = thereRow f P s t j m
  | 0, _ => rfl
  | m + 1, hk => by
    have h0 := thereRow_same h j m (fun k hk' => hk k (by omega))
    have h1 : hereB f P s t' j m = hereB f P s t j m := by
      unfold hereB
      by_cases hs : ((f j).leg m).to = s
      · cases hl : leaveO f P j m with
        | none => rfl
        | some e =>
          have := hk m (by omega) hs e hl
          by_cases h2 : t ≤ e
          · simp [h2, this h2]
          · have h3 : ¬ t' ≤ e := by omega
            simp [h2, h3]
      · simp [hs]
    simp only [thereRow, h0, h1]
theorem thereAll_same {f : Nat → TrainD} {P : Nat → RowD} {s t t' : Int} (h : t ≤ t') : ∀ n, (∀ j, j < n → ∀ k, k < (P j).n → ((f j).leg k).to = s → ∀ e, leaveO f P j k = some e → t ≤ e → t' ≤ e) → thereAll f P s t' n = thereAll f P s t n
  | 0, _ => rfl
  | n + 1, hk => by
    simp only [thereAll]
    rw [thereAll_same h n (fun j hj => hk j (by omega)), thereRow_same h n _ (hk n (by omega))]

/-- from when on no other train has the track, and not ahead of a time -/
def trackRow (f : Nat → TrainD) (P : Nat → RowD) (gap : Int) (i k j : Nat) (a : Int) : Nat → Int
  | 0 => a
  | m + 1 => if j ≠ i ∧ trackOf (f j) m = trackOf (f i) k ∧ trackRow f P gap i k j a m < (P j).s m + ((f j).leg m).run + gap then (P j).s m + ((f j).leg m).run + gap else trackRow f P gap i k j a m
def trackAll (f : Nat → TrainD) (P : Nat → RowD) (gap : Int) (i k : Nat) (a : Int) : Nat → Int
  | 0 => a
  | j + 1 => trackRow f P gap i k j (trackAll f P gap i k a j) (P j).n
def maxZ (x y : Int) : Int := if x < y then y else x
def lowOf (np : Nat) (f : Nat → TrainD) (P : Nat → RowD) (gap last : Int) (i : Nat) : Int := trackAll f P gap i (P i).n (maxZ (readyOf f P i (P i).n) last) np
def stOf (f : Nat → TrainD) (P : Nat → RowD) (i : Nat) : Int := ((f i).leg (P i).n).to
def fullAt (np : Nat) (g : Nat → Int) (f : Nat → TrainD) (P : Nat → RowD) (s t : Int) : Prop := g s.toNat ≤ (thereAll f P s t np : Int)
/-- the first time from low on at which there is a track more -/
def IsFirst (np : Nat) (g : Nat → Int) (f : Nat → TrainD) (P : Nat → RowD) (s low t : Int) : Prop := low ≤ t ∧ ¬ fullAt np g f P s t ∧ ∀ u, low ≤ u → u < t → fullAt np g f P s u
theorem IsFirst.uniq {np : Nat} {g : Nat → Int} {f : Nat → TrainD} {P : Nat → RowD} {s low t t' : Int} (h : IsFirst np g f P s low t) (h' : IsFirst np g f P s low t') : t = t' := by
  rcases Int.lt_trichotomy t t' with e | e | e
  · exact absurd (h'.2.2 t h.1 e) h.2.1
  · exact e
  · exact absurd (h.2.2 t' h'.1 e) h'.2.1
open Classical in
/-- code, and when -/
noncomputable def nextOf (np : Nat) (g : Nat → Int) (f : Nat → TrainD) (P : Nat → RowD) (gap last : Int) (i : Nat) : Int × Int :=
  if (P i).n = (f i).nl then (2, 0) else if h : ∃ t, IsFirst np g f P (stOf f P i) (lowOf np f P gap last i) t then (0, h.choose) else (3, 0)
theorem nextOf_two {np : Nat} {g : Nat → Int} {f : Nat → TrainD} {P : Nat → RowD} {gap last : Int} {i : Nat} (h : (P i).n = (f i).nl) : nextOf np g f P gap last i = (2, 0) := by unfold nextOf; rw [if_pos h]
theorem nextOf_ok {np : Nat} {g : Nat → Int} {f : Nat → TrainD} {P : Nat → RowD} {gap last : Int} {i : Nat} (h : (P i).n ≠ (f i).nl) {t : Int} (ht : IsFirst np g f P (stOf f P i) (lowOf np f P gap last i) t) : nextOf np g f P gap last i = (0, t) := by
  unfold nextOf
  have he : ∃ t, IsFirst np g f P (stOf f P i) (lowOf np f P gap last i) t := ⟨t, ht⟩
  rw [if_neg h, dif_pos he, he.choose_spec.uniq ht]
theorem nextOf_three {np : Nat} {g : Nat → Int} {f : Nat → TrainD} {P : Nat → RowD} {gap last : Int} {i : Nat} (h : (P i).n ≠ (f i).nl) (ht : ∀ t, lowOf np f P gap last i ≤ t → fullAt np g f P (stOf f P i) t) : nextOf np g f P gap last i = (3, 0) := by
  unfold nextOf
  rw [if_neg h, dif_neg (fun ⟨t, h1, h2, _⟩ => h2 (ht t h1))]
/-- a leg more -/
def moreP (P : Nat → RowD) (i : Nat) (t : Int) : Nat → RowD := fun j => if j = i then ⟨(P j).n + 1, fun m => if m = (P j).n then t else (P j).s m⟩ else P j

theorem trackRow_bd {f : Nat → TrainD} {P : Nat → RowD} {gap : Int} {i k j : Nat} {a B : Int} (ha : a ≤ B) (h : ∀ m, m < (P j).n → (P j).s m + ((f j).leg m).run + gap ≤ B) : ∀ m, m ≤ (P j).n → a ≤ trackRow f P gap i k j a m ∧ trackRow f P gap i k j a m ≤ B
  | 0, _ => ⟨Int.le_refl _, ha⟩
  | m + 1, hm => by
    have h0 := trackRow_bd (f := f) (P := P) (gap := gap) (i := i) (k := k) ha h m (by omega)
    have h1 := h m (by omega)
    simp only [trackRow]
    split
    · rename_i hc; exact ⟨by omega, h1⟩
    · exact h0
theorem trackAll_bd {f : Nat → TrainD} {P : Nat → RowD} {gap : Int} {i k : Nat} {a B : Int} {n : Nat} (ha : a ≤ B) (h : ∀ j, j < n → ∀ m, m < (P j).n → (P j).s m + ((f j).leg m).run + gap ≤ B) : ∀ j, j ≤ n → a ≤ trackAll f P gap i k a j ∧ trackAll f P gap i k a j ≤ B
  | 0, _ => ⟨Int.le_refl _, ha⟩
  | j + 1, hj => by
    have h0 := trackAll_bd (i := i) (k := k) ha h j (by omega)
    have h1 := trackRow_bd (f := f) (P := P) (gap := gap) (i := i) (k := k) (j := j) h0.2 (h j (by omega)) (P j).n (Nat.le_refl _)
    simp only [trackAll]
    exact ⟨by omega, h1.2⟩
end Go.Proofs.YtelickcfodcmaaaGreatDoor
