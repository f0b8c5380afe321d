/-
  More of what a right line is, over plain data.
-/
import Derived.Test.YtelickcfodcmaaaGreatDoorRight
namespace Go.Proofs.YtelickcfodcmaaaGreatDoor

/-- more of what a right line is -/
structure RightG (nt : Nat) (g : Nat → Int) (gap : Int) (ntr : Nat) (f : Nat → TrainD) : Prop where
  g0 : 0 ≤ gap
  g1 : gap ≤ 10000
  legs : legSum f ntr ≤ 10
  st0 : 2 ≤ nt
  room : ∀ i, i < nt → 1 ≤ g i ∧ g i ≤ 10
  frm : ∀ j, j < ntr → 0 ≤ (f j).frm ∧ (f j).frm < nt
theorem rightG_of {nt : Nat} {g : Nat → Int} {gap : Int} {ntr : Nat} {f : Nat → TrainD} (h : faultOf nt g gap ntr f = (0, 0)) : RightG nt g gap ntr f := by
  unfold faultOf at h
  split at h
  · rename_i hok
    cases h1 : firstBad (fun i => inB (g i) 1 10) nt with
    | some i => rw [h1] at h; simp at h
    | none =>
      rw [h1] at h
      cases h2 : firstBad (fun i => trainB nt (f i)) ntr with
      | some i => rw [h2] at h; simp at h
      | none =>
        have hs := of_decide_eq_true hok.1
        have hg := of_decide_eq_true hok.2.1
        refine ⟨hg.1, hg.2, hok.2.2.2, by omega, fun i hi => of_decide_eq_true (firstBad_all h1 i hi), fun j hj => ?_⟩
        have ht := firstBad_all h2 j hj
        unfold trainB at ht
        simp only [Bool.and_eq_true] at ht
        have := of_decide_eq_true ht.1.1.1.1.1
        omega
  · simp at h
end Go.Proofs.YtelickcfodcmaaaGreatDoor
