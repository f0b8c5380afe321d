/-
  What is known of the trains of a right line; how long a train takes alone.
-/
import Derived.Test.YtelickcfodcmaaaGreatDoorPlain
namespace Go.Proofs.YtelickcfodcmaaaGreatDoor

/-- the numbers of a train that is right -/
structure RightT (t : TrainD) : Prop where
  r0 : 0 ≤ t.ready
  r1 : t.ready ≤ 100000
  d0 : 0 ≤ t.due
  d1 : t.due ≤ 100000
  w0 : 1 ≤ t.weight
  w1 : t.weight ≤ 100
  nl : t.nl ≤ 10
  leg : ∀ j, j < t.nl → 1 ≤ (t.leg j).run ∧ (t.leg j).run ≤ 10000 ∧ 0 ≤ (t.leg j).stay ∧ (t.leg j).stay ≤ 10000

theorem rightT_of {n : Nat} {t : TrainD} (h : trainB n t = true) (hn : t.nl ≤ 10) : RightT t := by
  unfold trainB at h
  simp only [Bool.and_eq_true] at h
  obtain ⟨⟨⟨⟨⟨_, h1⟩, h2⟩, h3⟩, _⟩, h5⟩ := h
  have e1 := of_decide_eq_true h1
  have e2 := of_decide_eq_true h2
  have e3 := of_decide_eq_true h3
  have e5 := of_decide_eq_true h5
  refine ⟨e1.1, e1.2, e2.1, e2.2, e3.1, e3.2, hn, fun j hj => ?_⟩
  have hl := e5 j hj
  unfold legB at hl
  simp only [Bool.and_eq_true] at hl
  obtain ⟨⟨⟨_, _⟩, l3⟩, l4⟩ := hl
  have g3 := of_decide_eq_true l3
  have g4 := of_decide_eq_true l4
  exact ⟨g3.1, g3.2, g4.1, g4.2⟩

theorem trainB_pos {n : Nat} {t : TrainD} (h : trainB n t = true) : 0 < t.nl := by
  unfold trainB at h
  simp only [Bool.and_eq_true] at h
  exact of_decide_eq_true h.1.2

theorem trainB_to {n : Nat} {t : TrainD} (h : trainB n t = true) {k : Nat} (hk : k < t.nl) : 0 ≤ (t.leg k).to ∧ (t.leg k).to < n := by
  unfold trainB at h
  simp only [Bool.and_eq_true] at h
  have hl := (of_decide_eq_true h.2) k hk
  unfold legB at hl
  simp only [Bool.and_eq_true] at hl
  have g := of_decide_eq_true hl.1.1.1
  omega

theorem legSum_part {f : Nat → TrainD} : ∀ {n j : Nat}, j < n → (f j).nl ≤ legSum f n
  | n + 1, j, h => by
    by_cases e : j = n
    · subst e; simp only [legSum]; omega
    · have := legSum_part (f := f) (n := n) (j := j) (by omega)
      simp only [legSum]; omega

theorem firstBad_all {p : Nat → Bool} : ∀ {n : Nat}, firstBad p n = none → ∀ j, j < n → p j = true
  | n + 1, h, j, hj => by
    unfold firstBad at h
    cases hF : firstBad p n with
    | some i => rw [hF] at h; cases h
    | none =>
      rw [hF] at h
      cases hp : p n with
      | false => rw [hp] at h; cases h
      | true =>
        by_cases e : j = n
        · subst e; exact hp
        · exact firstBad_all hF j (by omega)

/-- a line that has no fault -/
structure RightL (nt : Nat) (ntr : Nat) (f : Nat → TrainD) : Prop where
  st : nt ≤ 12
  tr : ntr ≤ 5
  train : ∀ j, j < ntr → RightT (f j)
  pos : ∀ j, j < ntr → 0 < (f j).nl
  to : ∀ j, j < ntr → ∀ k, k < (f j).nl → 0 ≤ ((f j).leg k).to ∧ ((f j).leg k).to < nt
theorem rightL_of {nt : Nat} {g : Nat → Int} {gap : Int} {ntr : Nat} {f : Nat → TrainD} (h : faultOf nt g gap ntr f = (0, 0)) : RightL nt ntr f := by
  unfold faultOf at h
  split at h
  · rename_i hok
    cases h1 : firstBad (fun i => inB (g i) 1 10) nt with
    | some i => rw [h1] at h; simp at h
    | none =>
      rw [h1] at h
      cases h2 : firstBad (fun i => trainB nt (f i)) ntr with
      | some i => rw [h2] at h; simp at h
      | none =>
        have := (of_decide_eq_true hok.1).2
        exact ⟨by omega, hok.2.2.1, fun j hj => rightT_of (firstBad_all h2 j hj) (by have := legSum_part (f := f) hj; omega), fun j hj => trainB_pos (firstBad_all h2 j hj), fun j hj k hk => trainB_to (firstBad_all h2 j hj) hk⟩
  · simp at h

/-- what the first k legs of a train take -/
def ticks (t : TrainD) : Nat → Int
  | 0 => 0
  | k + 1 => ticks t k + ((t.leg k).stay + (t.leg k).run)
theorem ticks_bd {t : TrainD} (h : RightT t) : ∀ k, k ≤ t.nl → 0 ≤ ticks t k ∧ ticks t k ≤ k * 20000
  | 0, _ => by simp [ticks]
  | k + 1, hk => by
    have h1 := ticks_bd h k (by omega)
    have h2 := h.leg k (by omega)
    simp only [ticks]; omega
def endOf (t : TrainD) : Int := t.ready + ticks t t.nl
theorem endOf_bd {t : TrainD} (h : RightT t) : 0 ≤ endOf t ∧ endOf t ≤ 300000 := by
  have h1 := ticks_bd h t.nl (Nat.le_refl _)
  have h2 := h.nl
  have h3 := h.r0
  have h4 := h.r1
  unfold endOf; omega
/-- what a train's lateness costs -/
def lateOf (t : TrainD) (e : Int) : Int := if e ≤ t.due then 0 else t.weight * (e - t.due)
theorem lateOf_bd {t : TrainD} (h : RightT t) {e : Int} (_h0 : 0 ≤ e) (h1 : e ≤ 300000) : 0 ≤ lateOf t e ∧ lateOf t e ≤ 30000000 := by
  have hd := h.d0
  have hw := h.w0
  have hw1 := h.w1
  unfold lateOf
  split
  · omega
  · constructor
    · exact Int.mul_nonneg (by omega) (by omega)
    · have : t.weight * (e - t.due) ≤ 100 * 300000 := Int.mul_le_mul hw1 (by omega) (by omega) (by omega)
      omega
def costSum (f : Nat → TrainD) : Nat → Int
  | 0 => 0
  | k + 1 => costSum f k + lateOf (f k) (endOf (f k))
theorem costSum_bd {f : Nat → TrainD} {n : Nat} (h : ∀ j, j < n → RightT (f j)) : ∀ k, k ≤ n → 0 ≤ costSum f k ∧ costSum f k ≤ k * 30000000
  | 0, _ => by simp [costSum]
  | k + 1, hk => by
    have h1 := costSum_bd h k (by omega)
    have h2 := endOf_bd (h k (by omega))
    have h3 := lateOf_bd (h k (by omega)) h2.1 h2.2
    simp only [costSum]; omega
end Go.Proofs.YtelickcfodcmaaaGreatDoor
