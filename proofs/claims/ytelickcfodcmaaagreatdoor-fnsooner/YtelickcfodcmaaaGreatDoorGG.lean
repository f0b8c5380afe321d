/-
  The plan of an order has no clash.
  The run of an order, step by step.
  A plan that can be is no sooner anywhere than the plan of its own order: plain.
  The plan of a plan's own order, held against it: plain.
  The program's three looks at a leg: too soon, on a track that is taken, to a station that is full.
  The program's looks at what is taken, by the lists of holds.
-/
import Derived.Test.YtelickcfodcmaaaGreatDoorGF
import Derived.Test.YtelickcfodcmaaaGreatDoorGD
import Derived.Test.YtelickcfodcmaaaGreatDoorGB
import Derived.Test.YtelickcfodcmaaaGreatDoorLateQ
import Derived.Test.YtelickcfodcmaaaGreatDoorImplX
import Derived.Test.YtelickcfodcmaaaGreatDoorGA
import Derived.Test.YtelickcfodcmaaaGreatDoorSpecC
import Derived.Test.YtelickcfodcmaaaGreatDoorSmall
namespace Go.Proofs.YtelickcfodcmaaaGreatDoor
open Go.RowKit

/-- this leg has begun, and its train has a track of station s at a time -/
def nowB (f : Nat → TrainD) (P : Nat → RowD) (s t : Int) (j m : Nat) : Bool := decide ((P j).s m ≤ t) && hereB f P s t j m
def nowRow (f : Nat → TrainD) (P : Nat → RowD) (s t : Int) (j : Nat) : Nat → Nat
  | 0 => 0
  | m + 1 => nowRow f P s t j m + (if nowB f P s t j m = true then 1 else 0)
def nowAll (f : Nat → TrainD) (P : Nat → RowD) (s t : Int) : Nat → Nat
  | 0 => 0
  | j + 1 => nowAll f P s t j + nowRow f P s t j (P j).n
theorem nowRow_le (f : Nat → TrainD) (P : Nat → RowD) (s t : Int) (j : Nat) : ∀ m, nowRow f P s t j m ≤ thereRow f P s t j m
  | 0 => Nat.le_refl _
  | m + 1 => by
    have h0 := nowRow_le f P s t j m
    have h1 : nowB f P s t j m = true → hereB f P s t j m = true := by unfold nowB; rw [Bool.and_eq_true]; exact fun h => h.2
    simp only [nowRow, thereRow]
    by_cases e : nowB f P s t j m = true
    · rw [if_pos e, if_pos (h1 e)]; omega
    · rw [if_neg e]; omega
theorem nowAll_le (f : Nat → TrainD) (P : Nat → RowD) (s t : Int) : ∀ n, nowAll f P s t n ≤ thereAll f P s t n
  | 0 => Nat.le_refl _
  | n + 1 => by
    have h0 := nowAll_le f P s t n
    have h1 := nowRow_le f P s t n (P n).n
    simp only [nowAll, thereAll]; omega
theorem nowRow_same {f : Nat → TrainD} {P Q : Nat → RowD} {s t : Int} {j : Nat} : ∀ n, (∀ m, m < n → nowB f Q s t j m = nowB f P s t j m) → nowRow f Q s t j n = nowRow f P s t j n
  | 0, _ => rfl
  | n + 1, h => by simp only [nowRow]; rw [nowRow_same n (fun m hm => h m (by omega)), h n (by omega)]
theorem nowB_other {f : Nat → TrainD} {P : Nat → RowD} {i : Nat} {t s t' : Int} {j m : Nat} (h : j ≠ i) : nowB f (moreP P i t) s t' j m = nowB f P s t' j m := by
  unfold nowB hereB leaveO
  rw [moreP_other h]
theorem nowB_old {f : Nat → TrainD} {P : Nat → RowD} {i : Nat} {t s t' : Int} {m : Nat} (hk : (P i).n < (f i).nl) (hm : m < (P i).n) (ht : t' ≤ t) : nowB f (moreP P i t) s t' i m = nowB f P s t' i m := by
  unfold nowB hereB leaveO
  rw [moreP_old hm, moreP_n]
  by_cases e : m + 1 < (P i).n
  · rw [if_pos e, if_pos (by omega), moreP_old e]
  · have e2 : m + 1 = (P i).n := by omega
    have e3 : (moreP P i t i).s (m + 1) = t := by rw [e2]; exact moreP_new
    rw [if_neg e, if_pos (by omega), if_pos (by omega), e3]
    simp [ht]
theorem nowB_new {f : Nat → TrainD} {P : Nat → RowD} {i : Nat} {t s t' : Int} (h : t' < t ∨ stOf f P i ≠ s) : nowB f (moreP P i t) s t' i (P i).n = false := by
  unfold nowB hereB
  rw [moreP_new]
  rcases h with h | h
  · rw [decide_eq_false (by omega)]; rfl
  · have : ((f i).leg (P i).n).to ≠ s := h
    simp [this]
theorem nowRow_more {f : Nat → TrainD} {P : Nat → RowD} {i : Nat} {t s t' : Int} (hk : (P i).n < (f i).nl) (ht : t' ≤ t) : nowRow f (moreP P i t) s t' i ((P i).n + 1) = nowRow f P s t' i (P i).n + (if nowB f (moreP P i t) s t' i (P i).n = true then 1 else 0) := by
  simp only [nowRow]
  rw [nowRow_same (P := P) (P i).n (fun m hm => nowB_old hk hm ht)]
theorem nowAll_more {f : Nat → TrainD} {P : Nat → RowD} {i : Nat} {t s t' : Int} (hk : (P i).n < (f i).nl) (ht : t' ≤ t) : ∀ n, nowAll f (moreP P i t) s t' n = nowAll f P s t' n + (if i < n ∧ nowB f (moreP P i t) s t' i (P i).n = true then 1 else 0)
  | 0 => by simp [nowAll]
  | n + 1 => by
    simp only [nowAll]
    rw [nowAll_more hk ht n]
    by_cases e : n = i
    · subst e
      rw [moreP_n, nowRow_more hk ht, if_neg (by omega)]
      by_cases hb : nowB f (moreP P n t) s t' n (P n).n = true
      · rw [if_pos hb, if_pos ⟨by omega, hb⟩]; omega
      · rw [if_neg hb, if_neg (by simp [hb])]; omega
    · rw [moreP_other e, nowRow_same (P := P) (P n).n (fun m _ => nowB_other e)]
      by_cases h2 : i < n ∧ nowB f (moreP P i t) s t' i (P i).n = true
      · rw [if_pos h2, if_pos ⟨by omega, h2.2⟩]; omega
      · rw [if_neg h2, if_neg (fun h3 => h2 ⟨by omega, h3.2⟩)]; omega
/-- no leg of those placed clashes -/
structure NoC (np : Nat) (g : Nat → Int) (gap : Int) (f : Nat → TrainD) (P : Nat → RowD) : Prop where
  ready : ∀ j, j < np → ∀ m, m < (P j).n → readyOf f P j m ≤ (P j).s m
  track : ∀ i, i < np → ∀ k, k < (P i).n → ∀ j, j < np → ∀ m, m < (P j).n → i ≠ j → trackOf (f i) k = trackOf (f j) m → freeH f P gap j m ≤ (P i).s k ∨ freeH f P gap i k ≤ (P j).s m
  room : ∀ i, i < np → ∀ k, k < (P i).n → (nowAll f P ((f i).leg k).to ((P i).s k) np : Int) ≤ g ((f i).leg k).to.toNat
theorem NoC.start (np : Nat) (g : Nat → Int) (gap : Int) (f : Nat → TrainD) : NoC np g gap f (fun _ => ⟨0, fun _ => 0⟩) :=
  ⟨fun _ _ _ hm => absurd hm (Nat.not_lt_zero _), fun _ _ _ hk => absurd hk (Nat.not_lt_zero _), fun _ _ _ hk => absurd hk (Nat.not_lt_zero _)⟩
theorem readyOf_more {f : Nat → TrainD} {P : Nat → RowD} {i : Nat} {t : Int} {j m : Nat} (h : m ≤ (P j).n) : readyOf f (moreP P i t) j m = readyOf f P j m := by
  cases m with
  | zero => rfl
  | succ m => simp only [readyOf]; rw [moreP_old (by omega)]
theorem NoC.more {np : Nat} {g : Nat → Int} {gap : Int} {f : Nat → TrainD} {P : Nat → RowD} {last t : Int} (h : NoC np g gap f P) (hQ : PartP np f P last) {i : Nat} (hi : i < np) (hk : (P i).n < (f i).nl) (hf : IsFirst np g f P (stOf f P i) (lowOf np f P gap last i) t) : NoC np g gap f (moreP P i t) := by
  obtain ⟨l1, l2, _⟩ := trackAll_is (f := f) (P := P) (gap := gap) (i := i) (k := (P i).n) (a := maxZ (readyOf f P i (P i).n) last) np
  have hlow : trackAll f P gap i (P i).n (maxZ (readyOf f P i (P i).n) last) np ≤ t := hf.1
  have hmx : readyOf f P i (P i).n ≤ maxZ (readyOf f P i (P i).n) last ∧ last ≤ maxZ (readyOf f P i (P i).n) last := by unfold maxZ; split <;> omega
  have hfull : (thereAll f P (stOf f P i) t np : Int) < g (stOf f P i).toNat := by
    have := hf.2.1; unfold fullAt at this; omega
  have hnow : ((nowAll f P (stOf f P i) t np : Nat) : Int) + 1 ≤ g (stOf f P i).toNat := by
    have := nowAll_le f P (stOf f P i) t np; omega
  refine ⟨fun j hj m hm => ?_, fun a ha k hka j hj m hm hne htr => ?_, fun j hj m hm => ?_⟩
  · rcases moreP_legs hm with h1 | ⟨rfl, rfl⟩
    · rw [readyOf_more (by omega), moreP_old h1]; exact h.ready j hj m h1
    · rw [readyOf_more (Nat.le_refl _), moreP_new]; omega
  · rcases moreP_legs hka with h1 | ⟨rfl, rfl⟩
    · rcases moreP_legs hm with h2 | ⟨rfl, rfl⟩
      · rw [freeH_old h1, freeH_old h2, moreP_old h1, moreP_old h2]; exact h.track a ha k h1 j hj m h2 hne htr
      · rw [freeH_old h1, moreP_new]
        have := l2 a ha k h1 hne htr
        exact Or.inr (by omega)
    · rcases moreP_legs hm with h2 | ⟨rfl, rfl⟩
      · rw [freeH_old h2, moreP_new]
        have := l2 j hj m h2 (fun e => hne e.symm) htr.symm
        exact Or.inl (by omega)
      · exact absurd rfl hne
  · rcases moreP_legs hm with h1 | ⟨rfl, rfl⟩
    · have hl := (hQ.at0 j hj m h1).2
      have hr := h.room j hj m h1
      rw [moreP_old h1, nowAll_more hk (by omega)]
      by_cases hb : i < np ∧ nowB f (moreP P i t) ((f j).leg m).to ((P j).s m) i (P i).n = true
      · rw [if_pos hb]
        have hst : stOf f P i = ((f j).leg m).to ∧ t ≤ (P j).s m := by
          refine ⟨Classical.byContradiction fun e => ?_, Int.not_lt.1 fun e => ?_⟩
          · rw [nowB_new (Or.inr e)] at hb; exact absurd hb.2 (by decide)
          · rw [nowB_new (Or.inl e)] at hb; exact absurd hb.2 (by decide)
        have ht : (P j).s m = t := by omega
        rw [← hst.1, ht]
        omega
      · rw [if_neg hb]; exact hr
    · rw [moreP_new, nowAll_more hk (Int.le_refl _)]
      show ((nowAll f P (stOf f P j) t np + _ : Nat) : Int) ≤ g (stOf f P j).toNat
      split <;> omega
theorem leavesOf_ge {len np : Nat} {g : Nat → Int} {gap : Int} {f : Nat → TrainD} {P : Nat → RowD} (hR : RightL len np f) (h : NoC np g gap f P) (hn : ∀ j, j < np → (P j).n = (f j).nl) {i k : Nat} (hi : i < np) (hk : k < (f i).nl) : (P i).s k ≤ leavesOf f P i k := by
  have hl := (hR.train i hi).leg k hk
  unfold leavesOf
  split
  · rename_i e
    have h1 := h.ready i hi (k + 1) e
    have h2 := (hR.train i hi).leg (k + 1) (by rw [← hn i hi]; exact e)
    simp only [readyOf] at h1
    omega
  · omega
theorem count_le {len np : Nat} {g : Nat → Int} {gap : Int} {f : Nat → TrainD} {P : Nat → RowD} (hR : RightL len np f) (h : NoC np g gap f P) (hn : ∀ j, j < np → (P j).n = (f j).nl) {i k : Nat} (hi : i < np) (hk : k < (f i).nl) {j : Nat} (hj : j < np) : ∀ m, m ≤ (f j).nl → countRow f P i k j m ≤ nowRow f P ((f i).leg k).to ((P i).s k) j m
  | 0, _ => Nat.le_refl _
  | m + 1, hm => by
    have h0 := count_le hR h hn hi hk hj m (by omega)
    simp only [countRow, nowRow]
    by_cases hs : skipB f P i k j m = true
    · rw [if_pos hs]; omega
    · have hb : nowB f P ((f i).leg k).to ((P i).s k) j m = true := by
        unfold skipB at hs
        rw [decide_eq_true_eq] at hs
        have hto : ((f j).leg m).to = ((f i).leg k).to := Classical.byContradiction fun e => hs (Or.inl e)
        have hle : (P j).s m ≤ (P i).s k := Int.not_lt.1 fun e => hs (Or.inr (Or.inl e))
        have hlv : (P i).s k ≤ leavesOf f P j m := by
          refine Int.not_lt.1 fun e => ?_
          by_cases hjm : j = i ∧ m = k
          · obtain ⟨rfl, rfl⟩ := hjm
            have := leavesOf_ge hR h hn hi hk
            omega
          · exact hs (Or.inr (Or.inr (Or.inr ⟨e, by by_cases hji : j = i; exact Or.inr (fun e2 => hjm ⟨hji, e2⟩); exact Or.inl hji⟩)))
        have hlo : leaveO f P j m = some (leavesOf f P j m) := by
          unfold leaveO leavesOf
          by_cases e : m + 1 < (P j).n
          · rw [if_pos e, if_pos e]
          · rw [if_neg e, if_neg e, if_neg (by rw [← hn j hj]; exact e)]
        unfold nowB hereB
        rw [hlo]
        simp [hto, hle, hlv]
      rw [if_neg hs, if_pos hb]; omega
theorem countAll_now {len np : Nat} {g : Nat → Int} {gap : Int} {f : Nat → TrainD} {P : Nat → RowD} (hR : RightL len np f) (h : NoC np g gap f P) (hn : ∀ j, j < np → (P j).n = (f j).nl) {i k : Nat} (hi : i < np) (hk : k < (f i).nl) : ∀ n, n ≤ np → countAll f P i k n ≤ nowAll f P ((f i).leg k).to ((P i).s k) n
  | 0, _ => Nat.le_refl _
  | n + 1, hle => by
    have h0 := countAll_now hR h hn hi hk n (by omega)
    have h1 := count_le hR h hn hi hk (show n < np by omega) (f n).nl (Nat.le_refl _)
    simp only [countAll, nowAll]
    rw [hn n (by omega)]
    omega
/-- a plan, whole, of legs none of which clashes, can be -/
theorem NoC.clash {len np : Nat} {g : Nat → Int} {gap last : Int} {f : Nat → TrainD} {P : Nat → RowD} (hF : faultOf len g gap np f = (0, 0)) (h : NoC np g gap f P) (hQ : PartP np f P last) (hn : ∀ j, j < np → (P j).n = (f j).nl) : clashOf len g gap np f np P = (0, 0, 0, 0) := by
  have hR := rightL_of hF
  have hG := rightG_of hF
  have hS : shapeB np f np P = true := by
    unfold shapeB
    rw [decide_eq_true_eq]
    refine ⟨rfl, fun i hi => ⟨hn i hi, fun k hk => ?_⟩⟩
    have h1 := hQ.at0 i hi k hk
    have h2 := hQ.l1
    unfold inB
    rw [decide_eq_true_eq]
    omega
  refine clashOf_zero hF hS (fun j hj m hm => h.ready j hj m (by rw [hn j hj]; exact hm)) (fun i hi k hk => withOf_none (fun j hj m hm => ?_)) (fun i hi k hk => ?_)
  · unfold onB
    rw [decide_eq_false_iff_not]
    rintro ⟨hne, htr, h1, _, h3⟩
    have hrun := (hR.train i hi).leg k hk
    have hg := hG.g0
    rcases h.track i hi k (by rw [hn i hi]; exact hk) j hj m (by rw [hn j hj]; exact hm) hne htr with e | e
    · unfold freeH at e; omega
    · unfold freeH at e; omega
  · unfold fullB
    rw [decide_eq_false_iff_not]
    have h1 := h.room i hi k (by rw [hn i hi]; exact hk)
    have h2 := countAll_now hR h hn hi hk np (Nat.le_refl _)
    omega
end Go.Proofs.YtelickcfodcmaaaGreatDoor

namespace Go.Proofs.YtelickcfodcmaaaGreatDoor
open Go.RowKit

section
variable {len np : Nat} {g : Nat → Int} {gap : Int} {f : Nat → TrainD} {o : Nat → Int}
theorem run_step {n : Nat} (hc : (runP np g f gap o (n + 1)).code = 0) : (runP np g f gap o n).code = 0 ∧ ∃ (i : Nat) (t : Int), i < np ∧ o n = (i : Int) ∧ ((runP np g f gap o n).P i).n ≠ (f i).nl ∧ IsFirst np g f (runP np g f gap o n).P (stOf f (runP np g f gap o n).P i) (lowOf np f (runP np g f gap o n).P gap (runP np g f gap o n).last i) t ∧ runP np g f gap o (n + 1) = ⟨0, 0, moreP (runP np g f gap o n).P i t, t⟩ := by
  have h0 : (runP np g f gap o n).code = 0 := Classical.byContradiction fun e => by
    have := runP_stick e 1
    rw [this] at hc
    exact e hc
  refine ⟨h0, ?_⟩
  have hs : runP np g f gap o (n + 1) = stepP np g f gap (o n) n (runP np g f gap o n) := rfl
  rw [hs] at hc ⊢
  unfold stepP at hc ⊢
  rw [if_neg (by simp [h0])] at hc ⊢
  by_cases hb : inB (o n) 0 ((np : Int) - 1) = true
  · rw [if_pos hb] at hc ⊢
    have hr := of_decide_eq_true hb
    by_cases hn : (nextOf np g f (runP np g f gap o n).P gap (runP np g f gap o n).last (o n).toNat).1 = 0
    · rw [if_pos hn]
      refine ⟨(o n).toNat, _, by omega, by omega, ?_, ?_, rfl⟩
      · intro e
        rw [nextOf_two e] at hn
        exact absurd hn (by decide)
      · unfold nextOf at hn ⊢
        by_cases e1 : ((runP np g f gap o n).P (o n).toNat).n = (f (o n).toNat).nl
        · rw [if_pos e1] at hn; exact absurd hn (by decide)
        · rw [if_neg e1] at hn ⊢
          split
          · rename_i h1
            exact h1.choose_spec
          · rename_i h1
            rw [dif_neg h1] at hn
            exact absurd hn (by decide)
    · rw [if_neg hn] at hc
      exact absurd hc hn
  · rw [if_neg hb] at hc
    exact absurd hc (by simp)
theorem run_all (hR : RightL len np f) (hG : RightG len g gap np f) : ∀ n, n ≤ 10 → (runP np g f gap o n).code = 0 → RunOk len np g f gap (runP np g f gap o n) n ∧ NoC np g gap f (runP np g f gap o n).P
  | 0, _, _ => ⟨runP_zero np g f gap o len, NoC.start np g gap f⟩
  | n + 1, hn, hc => by
    obtain ⟨h0, i, t, hi, ho, hne, hf, e⟩ := run_step hc
    obtain ⟨h1, h2⟩ := run_all hR hG n (by omega) h0
    have hk : ((runP np g f gap o n).P i).n < (f i).nl := by have := h1.part.le i hi; omega
    rw [e]
    exact ⟨(runOk_step hR hG h1 h0 hi hk hf (by omega)).2, h2.more h1.part hi hk hf⟩
theorem run_ext {n : Nat} : ∀ d, (runP np g f gap o (n + d)).code = 0 → (runP np g f gap o n).code = 0 ∧ ∀ j m, m < ((runP np g f gap o n).P j).n → m < ((runP np g f gap o (n + d)).P j).n ∧ ((runP np g f gap o (n + d)).P j).s m = ((runP np g f gap o n).P j).s m
  | 0, h => ⟨h, fun _ _ hm => ⟨hm, rfl⟩⟩
  | d + 1, h => by
    obtain ⟨h0, i, t, _, _, _, _, e⟩ := run_step (n := n + d) h
    obtain ⟨h1, h2⟩ := run_ext (n := n) d h0
    refine ⟨h1, fun j m hm => ?_⟩
    obtain ⟨h3, h4⟩ := h2 j m hm
    rw [show n + (d + 1) = n + d + 1 from rfl, e]
    exact ⟨moreP_lt h3, (moreP_old h3).trans h4⟩
/-- step n of a whole run: whose leg, which, and when it begins in the plan -/
theorem run_leg (hR : RightL len np f) (hG : RightG len g gap np f) {no n : Nat} (hno : no ≤ 10) (hc : (runP np g f gap o no).code = 0) (hn : n < no) : ∃ i : Nat, i < np ∧ o n = (i : Int) ∧ ((runP np g f gap o n).P i).n < ((runP np g f gap o no).P i).n ∧ ((runP np g f gap o no).P i).s ((runP np g f gap o n).P i).n = (runP np g f gap o (n + 1)).last ∧ (runP np g f gap o n).last ≤ (runP np g f gap o (n + 1)).last ∧ ∀ j, ((runP np g f gap o (n + 1)).P j).n = ((runP np g f gap o n).P j).n + (if j = i then 1 else 0) := by
  obtain ⟨d, rfl⟩ : ∃ d, no = n + 1 + d := ⟨no - (n + 1), by omega⟩
  obtain ⟨h1, hx⟩ := run_ext (n := n + 1) d hc
  obtain ⟨h0, i, t, hi, ho, hne, hf, e⟩ := run_step h1
  obtain ⟨hk, _⟩ := run_all hR hG n (by omega) h0
  have hk2 : ((runP np g f gap o n).P i).n < (f i).nl := by have := hk.part.le i hi; omega
  have hnew : ((runP np g f gap o n).P i).n < ((runP np g f gap o (n + 1)).P i).n := by rw [e]; show _ < (moreP _ _ _ _).n; rw [moreP_n]; omega
  obtain ⟨hx1, hx2⟩ := hx i _ hnew
  refine ⟨i, hi, ho, hx1, ?_, ?_, fun j => ?_⟩
  · rw [hx2, e]; exact moreP_new
  · rw [e]
    have := (low_bd hR hG hk.part hi hk2).1
    have := hf.1
    show (runP np g f gap o n).last ≤ t
    omega
  · rw [e]
    show (moreP _ _ _ j).n = _
    by_cases hj : j = i
    · subst hj; rw [moreP_n, if_pos rfl]
    · rw [moreP_other hj, if_neg hj]; omega
theorem rows_full {P : Nat → RowD} : ∀ {n : Nat}, (∀ j, j < n → (P j).n ≤ (f j).nl) → rowSumQ P n = legSum f n → ∀ j, j < n → (P j).n = (f j).nl
  | 0, _, _ => fun j hj => absurd hj (Nat.not_lt_zero j)
  | n + 1, hle, he => fun j hj => by
    have hs : ∀ m, m ≤ n → rowSumQ P m ≤ legSum f m := fun m => by
      induction m with
      | zero => exact fun _ => Nat.le_refl _
      | succ m ih =>
        intro hm
        have h1 := ih (by omega)
        have h2 := hle m (by omega)
        simp only [rowSumQ, legSum]; omega
    have h1 := hs n (Nat.le_refl _)
    have h2 := hle n (by omega)
    simp only [rowSumQ, legSum] at he
    by_cases e : j = n
    · subst e; omega
    · exact rows_full (n := n) (fun j hj => hle j (by omega)) (by omega) j (by omega)
theorem placeSt_zero {no : Nat} (h : (placeSt len g gap np f no o).code = 0) : faultOf len g gap np f = (0, 0) ∧ no ≤ 10 ∧ (runP np g f gap o no).code = 0 ∧ no = legSum f np ∧ placeSt len g gap np f no o = runP np g f gap o no := by
  unfold placeSt at h ⊢
  by_cases hb : (faultOf len g gap np f).1 = 0 ∧ no ≤ 10
  · rw [if_pos hb] at h ⊢
    by_cases hc : (runP np g f gap o no).code = 0
    · rw [if_neg (by simp [hc])] at h ⊢
      by_cases hl : no = legSum f np
      · rw [if_pos hl]
        exact ⟨faultOf_snd hb.1, hb.2, hc, hl, rfl⟩
      · rw [if_neg hl] at h; exact absurd h (by simp)
    · rw [if_pos hc] at h; exact absurd h hc
  · rw [if_neg hb] at h; exact absurd h (by simp)
/-- the plan of an order, where it has one, can be -/
theorem placed_clash {no : Nat} (h : (placeSt len g gap np f no o).code = 0) : clashOf len g gap np f np (placeSt len g gap np f no o).P = (0, 0, 0, 0) := by
  obtain ⟨hF, hno, hc, hl, e⟩ := placeSt_zero h
  obtain ⟨h1, h2⟩ := run_all (rightL_of hF) (rightG_of hF) no hno hc
  rw [e]
  exact h2.clash hF h1.part (rows_full h1.part.le (by rw [h1.sum, hl]))
end
end Go.Proofs.YtelickcfodcmaaaGreatDoor

namespace Go.Proofs.YtelickcfodcmaaaGreatDoor
open Go.RowKit

theorem firstBad_allO {p : Nat → Bool} : ∀ {n : Nat}, firstBad p n = none → ∀ j, j < n → p j = true
  | 0, _, j, h => absurd h (Nat.not_lt_zero j)
  | n + 1, h, j, hj => by
    simp only [firstBad] at h
    cases e : firstBad p n with
    | some i => rw [e] at h; cases h
    | none =>
      rw [e] at h
      dsimp only at h
      by_cases hp : p n = true
      · rcases Nat.lt_succ_iff_lt_or_eq.1 hj with h1 | rfl
        · exact firstBad_allO e j h1
        · exact hp
      · rw [if_neg hp] at h; cases h
theorem firstBad_badO {p : Nat → Bool} {i : Nat} : ∀ {n : Nat}, firstBad p n = some i → p i = false
  | 0, h => by simp [firstBad] at h
  | n + 1, h => by
    simp only [firstBad] at h
    cases e : firstBad p n with
    | some j => rw [e] at h; cases h; exact firstBad_badO e
    | none =>
      rw [e] at h
      dsimp only at h
      by_cases hp : p n = true
      · rw [if_pos hp] at h; cases h
      · rw [if_neg hp] at h; cases h; exact Bool.eq_false_iff.2 hp
theorem first2_allO {n : Nat} {len : Nat → Nat} {p : Nat → Nat → Bool} (h : first2 n len p = none) : ∀ i, i < n → ∀ k, k < len i → p i k = true := fun i hi k hk => by
  unfold first2 at h
  cases e : firstBad (fun i => (firstBad (p i) (len i)).isNone) n with
  | none => exact firstBad_allO (Option.isNone_iff_eq_none.1 (firstBad_allO e i hi)) k hk
  | some j =>
    rw [e] at h
    dsimp only at h
    have hb := firstBad_badO e
    cases e2 : firstBad (p j) (len j) with
    | some m => rw [e2] at h; cases h
    | none => rw [e2] at hb; cases hb
/-- a plan that can be -/
structure CanP (np : Nat) (g : Nat → Int) (gap : Int) (f : Nat → TrainD) (p : Nat → RowD) : Prop where
  n : ∀ j, j < np → (p j).n = (f j).nl
  ready : ∀ i, i < np → ∀ k, k < (f i).nl → readyOf f p i k ≤ (p i).s k
  track : ∀ i, i < np → ∀ k, k < (f i).nl → ∀ j, j < np → ∀ m, m < (f j).nl → i ≠ j → trackOf (f i) k = trackOf (f j) m → (p j).s m < (p i).s k ∨ ((p j).s m = (p i).s k ∧ j < i) → freeH f p gap j m ≤ (p i).s k
  room : ∀ i, i < np → ∀ k, k < (f i).nl → (countAll f p i k np : Int) ≤ g ((f i).leg k).to.toNat
theorem canP_of {nt : Nat} {g : Nat → Int} {gap : Int} {np : Nat} {f : Nat → TrainD} {p : Nat → RowD} (h : clashOf nt g gap np f np p = (0, 0, 0, 0)) : CanP np g gap f p := by
  have hok := clashOf_ok h
  have hS := (rightP_of hok.2).row
  unfold clashOf at h
  rw [if_pos hok] at h
  cases e1 : first2 np (fun i => (f i).nl) (fun i k => decide (readyOf f p i k ≤ (p i).s k)) with
  | some x => rw [e1] at h; exact absurd (congrArg Prod.fst h) (by simp)
  | none =>
    rw [e1] at h
    dsimp only at h
    cases e2 : first2 np (fun i => (f i).nl) (fun i k => (withOf gap np f p i k).isNone) with
    | some x => rw [e2] at h; exact absurd (congrArg Prod.fst h) (by simp)
    | none =>
      rw [e2] at h
      dsimp only at h
      cases e3 : first2 np (fun i => (f i).nl) (fun i k => !fullB g np f p i k) with
      | some x => rw [e3] at h; exact absurd (congrArg Prod.fst h) (by simp)
      | none =>
        refine ⟨hS, fun i hi k hk => of_decide_eq_true (first2_allO e1 i hi k hk), fun i hi k hk j hj m hm hne htr hlt => ?_, fun i hi k hk => ?_⟩
        · have h1 := firstBad_allO (Option.isNone_iff_eq_none.1 (first2_allO e2 i hi k hk)) j hj
          have h2 := firstBad_allO (Option.isNone_iff_eq_none.1 h1) m hm
          have h3 : onB gap f p i k j m = false := by simpa using h2
          unfold onB at h3
          rw [decide_eq_false_iff_not] at h3
          refine Int.not_lt.1 fun hc => h3 ⟨hne, htr, by omega, by omega, hc⟩
        · have h1 := first2_allO e3 i hi k hk
          have h2 : fullB g np f p i k = false := by simpa using h1
          unfold fullB at h2
          rw [decide_eq_false_iff_not] at h2
          omega
section
variable {len np : Nat} {g : Nat → Int} {gap : Int} {f : Nat → TrainD} {p : Nat → RowD}
theorem CanP.asc (hR : RightL len np f) (h : CanP np g gap f p) {i k : Nat} (hi : i < np) (hk : k + 1 < (f i).nl) : (p i).s k < (p i).s (k + 1) := by
  have h1 := h.ready i hi (k + 1) hk
  have h2 := (hR.train i hi).leg k (by omega)
  have h3 := (hR.train i hi).leg (k + 1) hk
  simp only [readyOf] at h1
  omega
/-- those picked begin no later than what is left -/
structure Pre (np : Nat) (p : Nat → RowD) (nx : Nat → Nat) : Prop where
  le : ∀ j, j < np → nx j ≤ (p j).n
  lt : ∀ j, j < np → ∀ m, m < nx j → ∀ i, i < np → nx i < (p i).n → (p j).s m < (p i).s (nx i) ∨ ((p j).s m = (p i).s (nx i) ∧ j ≤ i)
/-- b's next leg begins first -/
def Least (np : Nat) (p : Nat → RowD) (nx : Nat → Nat) (b : Nat) : Prop := b < np ∧ nx b < (p b).n ∧ ∀ i, i < np → nx i < (p i).n → (p b).s (nx b) < (p i).s (nx i) ∨ ((p b).s (nx b) = (p i).s (nx i) ∧ b ≤ i)
theorem bump_self (nx : Nat → Nat) (b : Nat) : bump nx b b = nx b + 1 := by simp [bump]
theorem bump_ne {nx : Nat → Nat} {b j : Nat} (h : j ≠ b) : bump nx b j = nx j := by simp [bump, h]
theorem Pre.bump (hR : RightL len np f) (hC : CanP np g gap f p) {nx : Nat → Nat} (h : Pre np p nx) {b : Nat} (hb : Least np p nx b) : Pre np p (bump nx b) := by
  obtain ⟨hb0, hb1, hb2⟩ := hb
  refine ⟨fun j hj => ?_, fun j hj m hm i hi hn => ?_⟩
  · by_cases e : j = b
    · subst e; rw [bump_self]; omega
    · rw [bump_ne e]; exact h.le j hj
  · have hold : ∀ i', i' < np → nx i' < (p i').n → (p j).s m < (p i').s (nx i') ∨ ((p j).s m = (p i').s (nx i') ∧ j ≤ i') := fun i' hi' hn' => by
      by_cases e : j = b
      · subst e
        rw [bump_self] at hm
        rcases Nat.lt_succ_iff_lt_or_eq.1 hm with h1 | h1
        · exact h.lt j hj m h1 i' hi' hn'
        · rw [h1]; exact hb2 i' hi' hn'
      · rw [bump_ne e] at hm
        exact h.lt j hj m hm i' hi' hn'
    by_cases e : i = b
    · subst e
      rw [bump_self] at hn ⊢
      have ha := hC.asc hR hi (k := nx i) (by rw [← hC.n i hi]; exact hn)
      have := hold i hi (by omega)
      left; omega
    · rw [bump_ne e] at hn ⊢
      exact hold i hi hn
/-- a run that follows, no later anywhere -/
structure Soon (np : Nat) (p : Nat → RowD) (nx : Nat → Nat) (Q : Nat → RowD) (last : Int) : Prop where
  n : ∀ j, j < np → (Q j).n = nx j
  le : ∀ j, j < np → ∀ m, m < nx j → (Q j).s m ≤ (p j).s m
  last : ∀ i, i < np → nx i < (p i).n → last ≤ (p i).s (nx i)
theorem first_ex {P : Nat → RowD} {s : Int} : ∀ (d : Nat) (low t0 : Int), t0 = low + d → ¬ fullAt np g f P s t0 → ∃ t, IsFirst np g f P s low t ∧ t ≤ t0
  | 0, low, t0, e, h => ⟨t0, ⟨by omega, h, fun u h1 h2 => by omega⟩, Int.le_refl _⟩
  | d + 1, low, t0, e, h => by
    by_cases hl : fullAt np g f P s low
    · obtain ⟨t, ⟨h1, h2, h3⟩, h4⟩ := first_ex d (low + 1) t0 (by omega) h
      refine ⟨t, ⟨by omega, h2, fun u hu hu2 => ?_⟩, h4⟩
      by_cases e2 : u = low
      · rw [e2]; exact hl
      · exact h3 u (by omega) hu2
    · exact ⟨low, ⟨Int.le_refl _, hl, fun u h1 h2 => by omega⟩, by omega⟩
theorem countRow_mono (f : Nat → TrainD) (P : Nat → RowD) (i k j : Nat) : ∀ (d m : Nat), countRow f P i k j m ≤ countRow f P i k j (m + d)
  | 0, m => Nat.le_refl _
  | d + 1, m => by
    have := countRow_mono f P i k j d m
    rw [show m + (d + 1) = (m + d) + 1 by omega]
    simp only [countRow]; omega
theorem there_row {Q : Nat → RowD} {s t : Int} {b k j : Nat} : ∀ n, (∀ m, m < n → hereB f Q s t j m = true → skipB f p b k j m = false) → thereRow f Q s t j n ≤ countRow f p b k j n
  | 0, _ => Nat.le_refl _
  | n + 1, h => by
    have h0 := there_row (Q := Q) (s := s) (t := t) (b := b) (k := k) (j := j) n (fun m hm => h m (by omega))
    simp only [thereRow, countRow]
    by_cases e : hereB f Q s t j n = true
    · rw [if_pos e, h n (by omega) e]; simp; omega
    · rw [if_neg e]; omega
theorem there_all {Q : Nat → RowD} {s t : Int} {b : Nat} {nx : Nat → Nat} (hn : ∀ j, j < np → (Q j).n = nx j) (hle : ∀ j, j < np → nx j ≤ (f j).nl) (hbk : nx b < (f b).nl) (hself : skipB f p b (nx b) b (nx b) = false) (h : ∀ j, j < np → ∀ m, m < nx j → hereB f Q s t j m = true → skipB f p b (nx b) j m = false) : ∀ n, n ≤ np → thereAll f Q s t n + (if b < n then 1 else 0) ≤ countAll f p b (nx b) n
  | 0, _ => by simp [thereAll, countAll]
  | n + 1, hnn => by
    have h0 := there_all hn hle hbk hself h n (by omega)
    have h1 := there_row (Q := Q) (s := s) (t := t) (b := b) (k := nx b) (j := n) (nx n) (h n (by omega))
    have h2 := countRow_mono f p b (nx b) n ((f n).nl - nx n) (nx n)
    have h3 := hle n (by omega)
    rw [show nx n + ((f n).nl - nx n) = (f n).nl by omega] at h2
    simp only [thereAll, countAll]
    rw [hn n (by omega)]
    by_cases e : b = n
    · subst e
      have h4 : countRow f p b (nx b) b (nx b + 1) = countRow f p b (nx b) b (nx b) + 1 := by simp only [countRow]; rw [hself]; simp
      have h5 := countRow_mono f p b (nx b) b ((f b).nl - (nx b + 1)) (nx b + 1)
      rw [show nx b + 1 + ((f b).nl - (nx b + 1)) = (f b).nl by omega] at h5
      rw [if_neg (by omega)] at h0
      rw [if_pos (by omega)]
      omega
    · by_cases e2 : b < n
      · rw [if_pos e2] at h0; rw [if_pos (by omega)]; omega
      · rw [if_neg e2] at h0; rw [if_neg (by omega)]; omega
/-- the next leg of the order can be placed no later than the plan has it -/
theorem soon_first (_ : RightL len np f) (hC : CanP np g gap f p) {nx : Nat → Nat} {Q : Nat → RowD} {last : Int} (hP : Pre np p nx) (hS : Soon np p nx Q last) {b : Nat} (hb : Least np p nx b) :
    ∃ t, IsFirst np g f Q (stOf f Q b) (lowOf np f Q gap last b) t ∧ t ≤ (p b).s (nx b) := by
  obtain ⟨hb0, hb1, hb2⟩ := hb
  have hbl : nx b < (f b).nl := by rw [← hC.n b hb0]; exact hb1
  have hQn := hS.n b hb0
  have hrd : readyOf f Q b (nx b) ≤ (p b).s (nx b) := by
    have h1 := hC.ready b hb0 (nx b) hbl
    cases e : nx b with
    | zero => rw [e] at h1; exact h1
    | succ k =>
      rw [e] at h1
      have h2 := hS.le b hb0 k (by omega)
      simp only [readyOf] at h1 ⊢
      omega
  have hlow : lowOf np f Q gap last b ≤ (p b).s (nx b) := by
    unfold lowOf
    obtain ⟨_, _, h3⟩ := trackAll_is (f := f) (P := Q) (gap := gap) (i := b) (k := (Q b).n) (a := maxZ (readyOf f Q b (Q b).n) last) np
    rcases h3 with h3 | ⟨j, m, hj, hm, hne, htr, h3⟩
    · rw [h3, hQn]
      have := hS.last b hb0 hb1
      unfold maxZ; split <;> omega
    · rw [h3]
      rw [hS.n j hj] at hm
      rw [hQn] at htr
      have h4 := hP.lt j hj m hm b hb0 hb1
      have h5 := hC.track b hb0 (nx b) hbl j hj m (by have := hP.le j hj; rw [hC.n j hj] at this; omega) (fun e => hne e.symm) htr.symm (by omega)
      have h6 := hS.le j hj m hm
      unfold freeH at h5 ⊢
      omega
  have hrow : ∀ j, j < np → nx j ≤ (f j).nl := fun j hj => by rw [← hC.n j hj]; exact hP.le j hj
  have hself : skipB f p b (nx b) b (nx b) = false := by
    unfold skipB
    rw [decide_eq_false_iff_not]
    rintro (h | h | h | h)
    · exact h rfl
    · omega
    · omega
    · rcases h.2 with h | h
      · exact h rfl
      · exact h rfl
  have hst : stOf f Q b = ((f b).leg (nx b)).to := by unfold stOf; rw [hQn]
  have hcnt := there_all (p := p) (Q := Q) (s := stOf f Q b) (t := (p b).s (nx b)) (b := b) hS.n hrow hbl hself (fun j hj m hm hh => by
    unfold hereB at hh
    rw [Bool.and_eq_true] at hh
    have hto := of_decide_eq_true hh.1
    have h4 := hP.lt j hj m hm b hb0 hb1
    have hlv : (p b).s (nx b) ≤ leavesOf f p j m := by
      have hl2 := hh.2
      unfold leaveO at hl2
      rw [hS.n j hj] at hl2
      unfold leavesOf
      rw [hC.n j hj]
      by_cases e1 : m + 1 < nx j
      · rw [if_pos e1] at hl2
        have h5 := of_decide_eq_true hl2
        have h6 := hS.le j hj (m + 1) e1
        rw [if_pos (by have := hrow j hj; omega)]
        omega
      · rw [if_neg e1] at hl2
        by_cases e2 : m + 1 < (f j).nl
        · rw [if_pos e2]
          have e3 : m + 1 = nx j := by omega
          have := hb2 j hj (by rw [hC.n j hj]; omega)
          rw [e3]
          omega
        · rw [if_neg e2] at hl2
          rw [if_neg e2]
          have h5 := of_decide_eq_true hl2
          have h6 := hS.le j hj m hm
          omega
    unfold skipB
    rw [decide_eq_false_iff_not]
    rintro (h | h | h | h)
    · exact h (by rw [hto, hst])
    · omega
    · omega
    · omega) np (Nat.le_refl _)
  rw [if_pos hb0] at hcnt
  have hroom := hC.room b hb0 (nx b) hbl
  refine first_ex ((p b).s (nx b) - lowOf np f Q gap last b).toNat _ _ (by omega) (fun hfull => ?_)
  unfold fullAt at hfull
  rw [hst] at hfull hcnt
  omega
theorem Soon.more (hR : RightL len np f) (hC : CanP np g gap f p) {nx : Nat → Nat} {Q : Nat → RowD} {last : Int} (hS : Soon np p nx Q last) {b : Nat} (hb : Least np p nx b) {t : Int} (ht : t ≤ (p b).s (nx b)) : Soon np p (bump nx b) (moreP Q b t) t := by
  obtain ⟨hb0, hb1, hb2⟩ := hb
  have hQn := hS.n b hb0
  refine ⟨fun j hj => ?_, fun j hj m hm => ?_, fun i hi hn => ?_⟩
  · by_cases e : j = b
    · subst e; rw [moreP_n, bump_self, hQn]
    · rw [moreP_other e, bump_ne e]; exact hS.n j hj
  · by_cases e : j = b
    · subst e
      rw [bump_self] at hm
      rcases Nat.lt_succ_iff_lt_or_eq.1 hm with h1 | h1
      · rw [moreP_old (by omega)]; exact hS.le j hj m h1
      · rw [h1, ← hQn, moreP_new, hQn]; exact ht
    · rw [moreP_other e]
      rw [bump_ne e] at hm
      exact hS.le j hj m hm
  · by_cases e : i = b
    · subst e
      rw [bump_self] at hn ⊢
      have := hC.asc hR hi (k := nx i) (by rw [← hC.n i hi]; exact hn)
      omega
    · rw [bump_ne e] at hn ⊢
      have := hb2 i hi hn
      omega
theorem rowSumQ_ge {P : Nat → RowD} : ∀ n, (∀ i, i < n → (f i).nl ≤ (P i).n) → legSum f n ≤ rowSumQ P n
  | 0, _ => Nat.le_refl _
  | n + 1, h => by
    have h0 := rowSumQ_ge (P := P) n (fun i hi => h i (by omega))
    have h1 := h n (by omega)
    simp only [legSum, rowSumQ]; omega
/-- the run of the plan's own order -/
theorem soon_run (hR : RightL len np f) (hG : RightG len g gap np f) (hC : CanP np g gap f p) (o : Nat → Int) (ho : ∀ n, n < legSum f np → o n = bestI p (nxAt p np n) np) : ∀ n, n ≤ legSum f np →
    (runP np g f gap o n).code = 0 ∧ RunOk len np g f gap (runP np g f gap o n) n ∧ Pre np p (nxAt p np n) ∧ Soon np p (nxAt p np n) (runP np g f gap o n).P (runP np g f gap o n).last
  | 0, _ => ⟨rfl, runP_zero np g f gap o len, ⟨fun _ _ => Nat.zero_le _, fun _ _ m hm => absurd hm (Nat.not_lt_zero m)⟩, ⟨fun _ _ => rfl, fun _ _ m hm => absurd hm (Nat.not_lt_zero m), fun i hi hn => by
      have h1 := hC.ready i hi 0 (by rw [← hC.n i hi]; exact hn)
      have h2 := (hR.train i hi).leg 0 (by rw [← hC.n i hi]; exact hn)
      have h3 := (hR.train i hi).r0
      simp only [readyOf] at h1
      show (0 : Int) ≤ (p i).s 0
      omega⟩⟩
  | n + 1, hn => by
    obtain ⟨hc, hok, hP, hS⟩ := soon_run hR hG hC o ho n (by omega)
    have hon := ho n (by omega)
    have hb0 : 0 ≤ bestI p (nxAt p np n) np := by
      refine Int.not_lt.1 fun hlt => ?_
      have h1 := bestI_none p (nxAt p np n) np hlt
      have h2 := rowSumQ_ge (f := f) (P := (runP np g f gap o n).P) np (fun i hi => by rw [hS.n i hi, ← hC.n i hi]; exact h1 i hi)
      have h3 := hok.sum
      omega
    obtain ⟨b, hbe⟩ : ∃ b : Nat, bestI p (nxAt p np n) np = (b : Int) := ⟨(bestI p (nxAt p np n) np).toNat, by omega⟩
    have hbl := (bestI_lt p (nxAt p np n) np).1
    obtain ⟨hm1, hm2⟩ := bestI_min p (nxAt p np n) np hb0
    rw [hbe, Int.toNat_natCast] at hm1 hm2
    have hbn : b < np := by omega
    have hL : Least np p (nxAt p np n) b := ⟨hbn, hm1, hm2⟩
    obtain ⟨t, hf, ht⟩ := soon_first hR hC hP hS hL
    have hlt : ((runP np g f gap o n).P b).n < (f b).nl := by rw [hS.n b hbn, ← hC.n b hbn]; exact hm1
    have hlegs := hG.legs
    obtain ⟨hstep, hok'⟩ := runOk_step hR hG hok hc hbn hlt hf (by omega)
    have hrun : runP np g f gap o (n + 1) = ⟨0, 0, moreP (runP np g f gap o n).P b t, t⟩ := by
      show stepP np g f gap (o n) n (runP np g f gap o n) = _
      rw [hon, hbe]; exact hstep
    have hnx : nxAt p np (n + 1) = bump (nxAt p np n) b := by
      show bump (nxAt p np n) (bestI p (nxAt p np n) np).toNat = _
      rw [hbe, Int.toNat_natCast]
    rw [hrun, hnx]
    exact ⟨rfl, hok', hP.bump hR hC hL, hS.more hR hC hL ht⟩
end
end Go.Proofs.YtelickcfodcmaaaGreatDoor

namespace Go.Proofs.YtelickcfodcmaaaGreatDoor
open Go.RowKit

theorem out_at (P : Nat → RowD) (m : Nat) : ∀ k n, n < k → (outAt P m k)[n]? = some (bestI P (nxAt P m n) m).toNat
  | 0, n, h => absurd h (Nat.not_lt_zero n)
  | k + 1, n, h => by
    rw [outAt]
    by_cases e : n < k
    · rw [List.getElem?_append_left (by rw [outAt_len]; exact e)]
      exact out_at P m k n e
    · obtain rfl : n = k := by omega
      rw [List.getElem?_append_right (by rw [outAt_len]; exact Nat.le_refl _), outAt_len, Nat.sub_self]
      rfl
/-- an order, as numbers -/
def ordI (L : List Nat) : List Int := L.map fun n : Nat => (n : Int)
theorem ordI_len (L : List Nat) : (ordI L).length = L.length := by simp [ordI]
theorem natCells_ord (L : List Nat) : natCells L = intCells (ordI L) := by simp [natCells, intCells, ordI]
theorem lateOf_mono {t : TrainD} (h : RightT t) {e e' : Int} (he : e ≤ e') : lateOf t e ≤ lateOf t e' := by
  have hw := h.w0
  unfold lateOf
  by_cases h1 : e ≤ t.due
  · rw [if_pos h1]
    by_cases h2 : e' ≤ t.due
    · rw [if_pos h2]; exact Int.le_refl _
    · rw [if_neg h2]; exact Int.mul_nonneg (by omega) (by omega)
  · rw [if_neg h1, if_neg (by omega)]
    exact Int.mul_le_mul_of_nonneg_left (by omega) (by omega)
section
variable {len np : Nat} {g : Nat → Int} {f : Nat → TrainD} {gap : Int} {p : Nat → RowD}
theorem costP_mono {Q : Nat → RowD} (hR : RightL len np f) (h : ∀ j, j < np → endP f Q j ≤ endP f p j) : ∀ k, k ≤ np → costP f Q k ≤ costP f p k
  | 0, _ => Int.le_refl _
  | k + 1, hk => by
    have h1 := costP_mono hR h k (by omega)
    have h2 := lateOf_mono (hR.train k (by omega)) (h k (by omega))
    simp only [costP]; omega
theorem order_len (h : clashOf len g gap np f np p = (0, 0, 0, 0)) : (ordI (orderOf len g gap np f np p)).length ≤ 10 := by
  have hC := canP_of h
  rw [ordI_len]
  unfold orderOf
  rw [if_pos h, outAt_len, ← rowSum_legs np hC.n]
  exact (rightG_of (faultOf_snd (clashOf_ok h).1)).legs
/-- the plan of a plan's own order -/
noncomputable def ownPl (len : Nat) (g : Nat → Int) (gap : Int) (np : Nat) (f : Nat → TrainD) (n : Nat) (p : Nat → RowD) : StP := placeSt len g gap np f (ordI (orderOf len g gap np f n p)).length (gI (ordI (orderOf len g gap np f n p)))
theorem sooner (h : clashOf len g gap np f np p = (0, 0, 0, 0)) :
    (ownPl len g gap np f np p).code = 0 ∧ (∀ j, j < np → ((ownPl len g gap np f np p).P j).n = (p j).n ∧ ∀ m, m < (p j).n → ((ownPl len g gap np f np p).P j).s m ≤ (p j).s m) ∧ costOf len g gap np f np (ownPl len g gap np f np p).P ≤ costOf len g gap np f np p := by
  obtain ⟨hF1, hS⟩ := clashOf_ok h
  have hF := faultOf_snd hF1
  have hR := rightL_of hF
  have hG := rightG_of hF
  have hC := canP_of h
  have hsum : legSum f np = rowSum p np := rowSum_legs np hC.n
  have hL : orderOf len g gap np f np p = outAt p np (legSum f np) := by unfold orderOf; rw [if_pos h, hsum]
  have hlen : (ordI (orderOf len g gap np f np p)).length = legSum f np := by rw [ordI_len, hL, outAt_len]
  have ho : ∀ n, n < legSum f np → gI (ordI (orderOf len g gap np f np p)) n = bestI p (nxAt p np n) np := fun n hn => by
    have h1 := out_at p np (legSum f np) n hn
    have h2 := best_there (P := p) (n := np) (k := n) (by omega)
    unfold gI ordI
    rw [hL, List.getD_eq_getElem?_getD, List.getElem?_map, h1]
    show (((bestI p (nxAt p np n) np).toNat : Nat) : Int) = _
    omega
  have hno : legSum f np ≤ 10 := hG.legs
  obtain ⟨hc, hok, _, hSo⟩ := soon_run hR hG hC _ ho (legSum f np) (Nat.le_refl _)
  have hfull := rows_full hok.part.le hok.sum
  have e : ownPl len g gap np f np p = runP np g f gap (gI (ordI (orderOf len g gap np f np p))) (legSum f np) := by
    unfold ownPl placeSt
    rw [hlen, if_pos ⟨by rw [hF], hno⟩, if_neg (by simp [hc]), if_pos rfl]
  have hcode : (ownPl len g gap np f np p).code = 0 := by rw [e]; exact hc
  have hrow : ∀ j, j < np → ((ownPl len g gap np f np p).P j).n = (p j).n ∧ ∀ m, m < (p j).n → ((ownPl len g gap np f np p).P j).s m ≤ (p j).s m := fun j hj => by
    rw [e]
    refine ⟨by rw [hfull j hj, hC.n j hj], fun m hm => hSo.le j hj m ?_⟩
    rw [← hSo.n j hj, hfull j hj, ← hC.n j hj]; exact hm
  refine ⟨hcode, hrow, ?_⟩
  have hcl := placed_clash hcode
  unfold costOf
  rw [if_pos h]
  have e2 : clashOf len g gap np f np (ownPl len g gap np f np p).P = (0, 0, 0, 0) := hcl
  rw [if_pos e2]
  refine costP_mono hR (fun j hj => ?_) np (Nat.le_refl _)
  have h1 := (hrow j hj).2 ((f j).nl - 1) (by have := hR.pos j hj; rw [hC.n j hj]; omega)
  unfold endP; omega
end
end Go.Proofs.YtelickcfodcmaaaGreatDoor

namespace Go.Proofs.YtelickcfodcmaaaGreatDoor
open Go.RowKit

def soonC (f : Nat → TrainD) (P : Nat → RowD) (i k : Nat) : Int × Int × Int × Int := if (P i).s k < readyOf f P i k then (2, (i : Int), (k : Int), 0) else (0, 0, 0, 0)
def takenC (gap : Int) (np : Nat) (f : Nat → TrainD) (P : Nat → RowD) (i k : Nat) : Int × Int × Int × Int :=
  match (listT gap np f P (trackOf (f i) k)).find? (hitB i ((P i).s k)) with
  | some h => (3, (i : Int), (k : Int), (h.tr : Int))
  | none => (0, 0, 0, 0)
def fullC (g : Nat → Int) (np : Nat) (f : Nat → TrainD) (P : Nat → RowD) (i k : Nat) : Int × Int × Int × Int :=
  if g ((f i).leg k).to.toNat < ((listS np f P ((f i).leg k).to).countP (metB i ((P i).s k)) : Int) then (4, (i : Int), (k : Int), 0) else (0, 0, 0, 0)
def clashV (v : Int × Int × Int × Int) : Value := .agg #[.int .i64 v.1, .int .i64 v.2.1, .int .i64 v.2.2.1, .int .i64 v.2.2.2]
theorem readyR_eq (f : Nat → TrainD) (P : Nat → RowD) (i k : Nat) : readyR (f i) (P i).s k = readyOf f P i k := by cases k <;> rfl

/-- what a look knows of its own two blocks: the holders' box, the answer's four places -/
structure LookBox (w W : World) (a : Option Addr) (len cap : Nat) (a' : Option Addr) (np cap' : Nat) (c : Option Addr) (nc bT bS : Nat) : Prop where
  h0 : W.cell? ⟨w.heap.size, 0, none⟩ = some (.slice a' np cap')
  h1 : W.cell? ⟨w.heap.size, 1, none⟩ = some (.slice c np nc)
  h2 : W.cell? ⟨w.heap.size, 2, none⟩ = some (.slice a len cap)
  h3 : W.cell? ⟨w.heap.size, 3, none⟩ = some (.map (some bT))
  h4 : W.cell? ⟨w.heap.size, 4, none⟩ = some (.map (some bS))
  r0 : W.cell? ⟨w.heap.size + 1, 0, none⟩ = some (.int .i64 0)
  r1 : W.cell? ⟨w.heap.size + 1, 1, none⟩ = some (.int .i64 0)
  r2 : W.cell? ⟨w.heap.size + 1, 2, none⟩ = some (.int .i64 0)
  r3 : W.cell? ⟨w.heap.size + 1, 3, none⟩ = some (.int .i64 0)
  z0 : W.frozen? ⟨w.heap.size + 1, 0, none⟩ = false
  z1 : W.frozen? ⟨w.heap.size + 1, 1, none⟩ = false
  z2 : W.frozen? ⟨w.heap.size + 1, 2, none⟩ = false
  z3 : W.frozen? ⟨w.heap.size + 1, 3, none⟩ = false
theorem LookBox.later {w W W' : World} {a : Option Addr} {len cap : Nat} {a' : Option Addr} {np cap' : Nat} {c : Option Addr} {nc bT bS : Nat} (h : LookBox w W a len cap a' np cap' c nc bT bS) (hb : Below W.heap.size W W') : LookBox w W' a len cap a' np cap' c nc bT bS :=
  ⟨cellLater hb h.h0, cellLater hb h.h1, cellLater hb h.h2, cellLater hb h.h3, cellLater hb h.h4, cellLater hb h.r0, cellLater hb h.r1, cellLater hb h.r2, cellLater hb h.r3, frozenLater hb h.r0 h.z0, frozenLater hb h.r1 h.z1, frozenLater hb h.r2 h.z2, frozenLater hb h.r3 h.z3⟩
theorem LookBox.new (w : World) (a : Option Addr) (len cap : Nat) (a' : Option Addr) (np cap' : Nat) (c : Option Addr) (nc bT bS : Nat) (t t' : TypeId) :
    LookBox w ((w.alloc (.cells #[.slice a' np cap', .slice c np nc, .slice a len cap, .map (some bT), .map (some bS)] t)).alloc (.cells #[.int .i64 0, .int .i64 0, .int .i64 0, .int .i64 0] t')) a len cap a' np cap' c nc bT bS := by
  obtain ⟨⟨y0, y1, y2, y3, y4⟩, _⟩ := box5 (Go.heap_alloc_new w (.cells #[.slice a' np cap', .slice c np nc, .slice a len cap, .map (some bT), .map (some bS)] t))
  refine ⟨cellLater (b1 _ _) y0, cellLater (b1 _ _) y1, cellLater (b1 _ _) y2, cellLater (b1 _ _) y3, cellLater (b1 _ _) y4, ?_, ?_, ?_, ?_, ?_, ?_, ?_, ?_⟩
  · rw [World.cell?_alloc_at _ _ _ _ (by simp)]; rfl
  · rw [World.cell?_alloc_at _ _ _ _ (by simp)]; rfl
  · rw [World.cell?_alloc_at _ _ _ _ (by simp)]; rfl
  · rw [World.cell?_alloc_at _ _ _ _ (by simp)]; rfl
  · rw [World.frozen?_alloc_at _ _ _ _ (by simp)]
  · rw [World.frozen?_alloc_at _ _ _ _ (by simp)]
  · rw [World.frozen?_alloc_at _ _ _ _ (by simp)]
  · rw [World.frozen?_alloc_at _ _ _ _ (by simp)]

set_option maxRecDepth 20000 in
set_option maxHeartbeats 4000000 in
theorem tooSoon_any (a : Option Addr) (len cap : Nat) (a' : Option Addr) (np cap' : Nat) (f : Nat → TrainD) (c : Option Addr) (nc bT bS : Nat) (P : Nat → RowD) (i k : Nat) (w : World)
    (hR : RightL len np f) (hQ : RightP np f np P) (hi : i < np) (hk : k < (f i).nl) (hT : IsTrains 0 w.heap.size w a' np f) (hP : IsRows 0 w.heap.size w c np P) (hC : Caps w c np) :
    Calls Tryz.prog 26 #[.agg #[.slice a' np cap', .slice c np nc, .slice a len cap, .map (some bT), .map (some bS)], .int .i64 i, .int .i64 k] w fun e w' => e = .returned (clashV (soonC f P i k)) ∧ Below w.heap.size w w' := by
  have hX := LookBox.new w a len cap a' np cap' c nc bT bS 62 33
  have hN := b2 w (.cells #[.slice a' np cap', .slice c np nc, .slice a len cap, .map (some bT), .map (some bS)] 62) (.cells #[.int .i64 0, .int .i64 0, .int .i64 0, .int .i64 0] 33)
  have htr := hR.tr
  have hRi := hR.train i hi
  have hnl := hRi.nl
  have hi' : (i : Int) < (np : Int) := by omega
  have hi0 : (0 : Int) ≤ (i : Int) := by omega
  have hk' : (k : Int) < ((f i).nl : Int) := by omega
  have hk0 : (0 : Int) ≤ (k : Int) := by omega
  obtain ⟨b, off, la, lc, rfl, _, hb, t0, t1, t2, t3, t4, hlg, _⟩ := hT i hi
  obtain ⟨bp, op, lp, lpc, rfl, _, hbp, p0, hin, _⟩ := hP i hi
  rw [hQ.row i hi] at p0 hin
  have hcap := hC.at hi p0
  have hkc : (k : Int) ≤ (lpc : Int) := by omega
  obtain ⟨bi, oi, rfl, _, hbi, q0⟩ := hin k hk
  have hin1 : IsInts 0 w.heap.size w (some ⟨bi, oi, none⟩) k (P i).s := fun j hj => hin j (by omega)
  replace t0 := cellLater hN t0
  replace t1 := cellLater hN t1
  replace t2 := cellLater hN t2
  replace t3 := cellLater hN t3
  replace t4 := cellLater hN t4
  replace p0 := cellLater hN p0
  replace q0 := cellLater hN q0
  replace hlg := hlg.grow hN.drew
  replace hin1 := hin1.grow hN.drew
  have y0 := hX.h0
  have y1 := hX.h1
  go_enter Tryz.func26, Tryz.ntmps26
  go_wp2
  refine nameW fun W hW => ?_
  rw [← hW] at hX hN t0 t1 t2 t3 t4 p0 q0 hlg hin1 y0 y1
  clear hW
  go_region_held3 (fun w' => w'.cell? ⟨w.heap.size, 0, none⟩ = some (.slice (some ⟨b, off, none⟩) np cap') ∧ w'.cell? ⟨b, off + i * 5, none⟩ = some (.int .i64 (f i).frm) ∧ w'.cell? ⟨b, off + i * 5 + 1, none⟩ = some (.int .i64 (f i).ready) ∧ w'.cell? ⟨b, off + i * 5 + 2, none⟩ = some (.int .i64 (f i).due) ∧ w'.cell? ⟨b, off + i * 5 + 3, none⟩ = some (.int .i64 (f i).weight) ∧ w'.cell? ⟨b, off + i * 5 + 4, none⟩ = some (.slice la (f i).nl lc) ∧ w'.cell? ⟨bi, oi + k, none⟩ = some (.int .i64 ((P i).s k))) (first | go_keep | (go_split_ands; refine ⟨?_, ?_, ?_, ?_, ?_, ?_, ?_⟩ <;> exact cellLater hB3 (by assumption))) ((first | (go_at_call 59; refine (soonest_any (f i) (P i).s k _ _ _ _ _ hk hRi (fun j hj => hQ.at0 i hi j (by omega)) hlg hin1).mono ?_; rintro e w3 ⟨rfl, hB3⟩)))
  replace hX := hX.later (Below.join (Below.refl _ _).drew (Nat.le_refl _) hB3)
  replace hN := Below.join hN.drew (Nat.le_refl _) hB3
  have r0 := hX.r0
  have r1 := hX.r1
  have r2 := hX.r2
  have r3 := hX.r3
  have z0 := hX.z0
  have z1 := hX.z1
  have z2 := hX.z2
  have z3 := hX.z3
  by_cases hbad : (P i).s k < readyR (f i) (P i).s k
  · have e1 : soonC f P i k = (2, (i : Int), (k : Int), 0) := by unfold soonC; rw [if_pos (by rw [← readyR_eq]; exact hbad)]
    go_wp2
    refine bodyPost_ret (v := .agg #[.int .i64 2, .int .i64 i, .int .i64 k, .int .i64 0]) (by simp [results, Tryz.results26, go_sem, r0, r1, r2, r3]) rfl ⟨by first | rfl | (rw [e1]; rfl), ?_⟩
    exact below_set4 hN (by omega) _ _ _ _
  · have e1 : soonC f P i k = (0, 0, 0, 0) := by unfold soonC; rw [if_neg (by rw [← readyR_eq]; exact hbad)]
    go_wp2
    refine bodyPost_ret (v := .agg #[.int .i64 0, .int .i64 0, .int .i64 0, .int .i64 0]) (by simp [results, Tryz.results26, go_sem, r0, r1, r2, r3]) rfl ⟨by first | rfl | (rw [e1]; rfl), ?_⟩
    exact below_set4 hN (by omega) _ _ _ _
end Go.Proofs.YtelickcfodcmaaaGreatDoor

namespace Go.Proofs.YtelickcfodcmaaaGreatDoor
open Go.RowKit

theorem find_first {p : HoldD → Bool} : ∀ {L : List HoldD} {r : Nat} {h : HoldD}, L[r]? = some h → p h = true → (∀ j x, j < r → L[j]? = some x → p x = false) → L.find? p = some h
  | [], r, h, e, _, _ => by simp at e
  | y :: L, 0, h, e, hp, _ => by
    have : y = h := by simpa using e
    subst this
    simp [hp]
  | y :: L, r + 1, h, e, hp, hall => by
    have hy := hall 0 y (by omega) (by simp)
    rw [List.find?_cons, hy]
    exact find_first (r := r) (by simpa using e) hp (fun j x hj hx => hall (j + 1) x (by omega) (by simpa using hx))
theorem find_no {p : HoldD → Bool} {L : List HoldD} (hall : ∀ j x, j < L.length → L[j]? = some x → p x = false) : L.find? p = none := by
  rw [List.find?_eq_none]
  intro x hx
  obtain ⟨j, hj, e⟩ := List.mem_iff_getElem.1 hx
  have := hall j x hj (by rw [List.getElem?_eq_getElem hj, e])
  simp [this]
theorem count_take {p : HoldD → Bool} {L : List HoldD} {r : Nat} {h : HoldD} (e : L[r]? = some h) : (L.take (r + 1)).countP p = (L.take r).countP p + if p h = true then 1 else 0 := by
  rw [List.take_add_one, e, List.countP_append]
  simp [List.countP_cons]

set_option maxRecDepth 20000 in
set_option maxHeartbeats 8000000 in
theorem trackTaken_any (a : Option Addr) (len cap : Nat) (g : Nat → Int) (gap : Int) (a' : Option Addr) (np cap' : Nat) (f : Nat → TrainD) (c : Option Addr) (nc b0 bT bS n : Nat) (mT mS : Int → Value) (LS : Int → List HoldD) (P : Nat → RowD) (i k : Nat) (w : World)
    (hR : RightL len np f) (hG : RightG len g gap np f) (hQ : RightP np f np P) (hi : i < np) (hk : k < (f i).nl) (hT : IsTrains 0 w.heap.size w a' np f) (hP : IsRows 0 w.heap.size w c np P) (hGr : Gr w b0 bT bS n mT mS (listT gap np f P) LS) :
    Calls Tryz.prog 27 #[.agg #[.slice a' np cap', .slice c np nc, .slice a len cap, .map (some bT), .map (some bS)], .int .i64 i, .int .i64 k] w fun e w' => e = .returned (clashV (takenC gap np f P i k)) ∧ Below w.heap.size w w' := by
  have hX := LookBox.new w a len cap a' np cap' c nc bT bS 62 33
  have hN := b2 w (.cells #[.slice a' np cap', .slice c np nc, .slice a len cap, .map (some bT), .map (some bS)] 62) (.cells #[.int .i64 0, .int .i64 0, .int .i64 0, .int .i64 0] 33)
  have htr := hR.tr
  have hRi := hR.train i hi
  have hnl := hRi.nl
  obtain ⟨x0, x1⟩ := trackOf_bd hR hG hi hk
  have hi' : (i : Int) < (np : Int) := by omega
  have hi0 : (0 : Int) ≤ (i : Int) := by omega
  have hk' : (k : Int) < ((f i).nl : Int) := by omega
  have hk0 : (0 : Int) ≤ (k : Int) := by omega
  obtain ⟨b, off, la, lc, rfl, _, hb, t0, t1, t2, t3, t4, hlg, _⟩ := hT i hi
  obtain ⟨bp, op, lp, lpc, rfl, _, hbp, p0, hin, _⟩ := hP i hi
  rw [hQ.row i hi] at p0 hin
  obtain ⟨bi, oi, rfl, _, hbi, q0⟩ := hin k hk
  replace t0 := cellLater hN t0
  replace t1 := cellLater hN t1
  replace t2 := cellLater hN t2
  replace t3 := cellLater hN t3
  replace t4 := cellLater hN t4
  replace p0 := cellLater hN p0
  replace q0 := cellLater hN q0
  replace hlg := hlg.grow hN.drew
  replace hGr := hGr.later hN
  have hll : (listT gap np f P (trackOf (f i) k)).length ≤ 10 := Nat.le_trans (allH_len f np) hG.legs
  have hE : takenC gap np f P i k = (match (listT gap np f P (trackOf (f i) k)).find? (hitB i ((P i).s k)) with | some h => (3, (i : Int), (k : Int), (h.tr : Int)) | none => (0, 0, 0, 0)) := rfl
  generalize takenC gap np f P i k = vv at hE ⊢
  go_enter Tryz.func27, Tryz.ntmps27
  go_wp2
  refine nameW fun W hW => ?_
  rw [← hW] at hX hN t0 t1 t2 t3 t4 p0 q0 hlg hGr
  clear hW
  obtain ⟨ha, hc, hv, hcs⟩ := isHolds_of (hGr.oT (trackOf (f i) k))
  have hlk : ∀ V : World, Below W.heap.size W V → (Instr.lookup 60 (.map (some bT)) (.int .i64 (trackOf (f i) k)) false).run Tryz.prog V = .ok (.slice ha (listT gap np f P (trackOf (f i) k)).length hc) V := fun V hV => by
    have := (hGr.kT.later hV).lookup Tryz.underlying3 Tryz.underlying60 (Tryz.zeroHolds _) (wf_small x0 x1)
    rw [hv] at this
    exact this
  generalize listT gap np f P (trackOf (f i) k) = L at hE hcs hlk hll
  clear hv
  have hS0 := And.intro (b := W.drew.cell? ⟨w.heap.size, 3, none⟩ = some (.map (some bT)) ∧ W.drew.cell? ⟨b, off + i * 5, none⟩ = some (.int .i64 (f i).frm) ∧ W.drew.cell? ⟨b, off + i * 5 + 1, none⟩ = some (.int .i64 (f i).ready) ∧ W.drew.cell? ⟨b, off + i * 5 + 2, none⟩ = some (.int .i64 (f i).due) ∧ W.drew.cell? ⟨b, off + i * 5 + 3, none⟩ = some (.int .i64 (f i).weight) ∧ W.drew.cell? ⟨b, off + i * 5 + 4, none⟩ = some (.slice la (f i).nl lc) ∧ (Instr.lookup 60 (.map (some bT)) (.int .i64 (trackOf (f i) k)) false).run Tryz.prog W.drew = .ok (.slice ha L.length hc) W.drew) (show W.drew.cell? ⟨w.heap.size, 0, none⟩ = some (.slice (some ⟨b, off, none⟩) np cap') from hX.h0) ⟨hX.h3, t0, t1, t2, t3, t4, hlk _ (Below.refl _ _).drew⟩
  go_region_held3 (fun w' => w'.cell? ⟨w.heap.size, 0, none⟩ = some (.slice (some ⟨b, off, none⟩) np cap') ∧ w'.cell? ⟨w.heap.size, 3, none⟩ = some (.map (some bT)) ∧ w'.cell? ⟨b, off + i * 5, none⟩ = some (.int .i64 (f i).frm) ∧ w'.cell? ⟨b, off + i * 5 + 1, none⟩ = some (.int .i64 (f i).ready) ∧ w'.cell? ⟨b, off + i * 5 + 2, none⟩ = some (.int .i64 (f i).due) ∧ w'.cell? ⟨b, off + i * 5 + 3, none⟩ = some (.int .i64 (f i).weight) ∧ w'.cell? ⟨b, off + i * 5 + 4, none⟩ = some (.slice la (f i).nl lc) ∧ (Instr.lookup 60 (.map (some bT)) (.int .i64 (trackOf (f i) k)) false).run Tryz.prog w' = .ok (.slice ha L.length hc) w') (first | exact hS0 | exact hS3) ((first | (go_at_call 57; refine (trackOf_any (f i) k _ _ _ hk hnl hlg).mono ?_; rintro e W3 ⟨rfl, hB3⟩; have hS3 := And.intro (cellLater hB3 hS0.1) (And.intro (cellLater hB3 hS0.2.1) (And.intro (cellLater hB3 hS0.2.2.1) (And.intro (cellLater hB3 hS0.2.2.2.1) (And.intro (cellLater hB3 hS0.2.2.2.2.1) (And.intro (cellLater hB3 hS0.2.2.2.2.2.1) (And.intro (cellLater hB3 hS0.2.2.2.2.2.2.1) (hlk _ (Below.join (Below.refl _ _).drew (Nat.le_refl _) hB3)))))))))))
  clear hlk hS0 hS3
  have hJ := Below.join (Below.refl W.heap.size W).drew (Nat.le_refl _) hB3
  replace hX := hX.later hJ
  replace hN := Below.join hN (Nat.le_refl _) hJ
  replace p0 := cellLater hJ p0
  replace q0 := cellLater hJ q0
  replace hcs : IsHolds W3 (.slice ha L.length hc) L := IsHolds.later ⟨ha, hc, rfl, hcs⟩ hJ
  clear t0 t1 t2 t3 t4 hlg hGr hB3 hJ
  go_wp2
  go_loopw [20] (fun rr wr => ∃ (r : Nat), r ≤ L.length ∧ rr = .int .i64 r ∧ (∀ j x, j < r → L[j]? = some x → hitB i ((P i).s k) x = false) ∧ Below W3.heap.size W3 wr) (fun rr _ => L.length - (intOf rr).toNat)
  case atStart => exact ⟨0, Nat.zero_le _, rfl, fun _ _ h => by omega, Below.refl _ _⟩
  case round =>
    obtain ⟨r, hr, rfl, hall, hB⟩ := hrel
    by_cases hlt : r < L.length
    · obtain ⟨h, hh⟩ : ∃ h, L[r]? = some h := ⟨L[r], List.getElem?_eq_getElem hlt⟩
      obtain ⟨_, _, e9, hcs9⟩ := hcs
      cases e9
      obtain ⟨gg, go, rfl, c0, c1, c2⟩ := hcs9 r h hh
      have hlt' : (r : Int) < (L.length : Int) := by omega
      have hr0 : (0 : Int) ≤ (r : Int) := by omega
      replace c0 := cellLater hB c0
      replace c1 := cellLater hB c1
      replace c2 := cellLater hB c2
      replace p0 := cellLater hB p0
      replace q0 := cellLater hB q0
      replace hX := hX.later hB
      have y1 := hX.h1
      have hA := b1 wr (.cells #[.int .i64 h.tr, .int .i64 h.frm, .int .i64 h.free] 78)
      obtain ⟨d0, d1, d2⟩ := new3 wr (.int .i64 h.tr) (.int .i64 h.frm) (.int .i64 h.free) 78
      replace p0 := cellLater hA p0
      replace q0 := cellLater hA q0
      replace y1 := cellLater hA y1
      replace hX := hX.later hA
      obtain ⟨ht, hf, hfr⟩ := h
      dsimp only at c0 c1 c2 d0 d1 d2 p0 q0 y1
      by_cases hne : ht = i
      · subst hne
        have hhit : hitB ht ((P ht).s k) ⟨ht, hf, hfr⟩ = false := hitB_own rfl
        have hne' : ((ht : Int) != (ht : Int)) = false := by simp
        go_wp2
        refine nameW fun V hV => ?_
        rw [← hV] at d0 d1 d2 p0 q0 y1 hA hX
        clear hV
        go_quiet (fail)
        go_wp2
        go_roundw
        case rel => exact ⟨r + 1, by omega, by go_num, fun j x hj hx => (by by_cases e : j = r; (· subst e; rw [hh] at hx; cases hx; exact hhit); (· exact hall j x (by omega) hx)), Below.join hB (Nat.le_refl _) (below_drewN hA _)⟩
        case measure => simp [intOf]; omega
      · have hhit := hitB_met (i := i) (t := (P i).s k) (h := ⟨ht, hf, hfr⟩) hne
        have hne' : ((ht : Int) != (i : Int)) = true := by simp; omega
        cases hm : metB i ((P i).s k) ⟨ht, hf, hfr⟩
        · rw [hm] at hhit
          have hmet := fun V => metBy_any ⟨ht, hf, hfr⟩ i ((P i).s k) V
          rw [hm] at hmet
          dsimp only at hmet
          clear hm
          go_wp2
          refine nameW fun V hV => ?_
          rw [← hV] at d0 d1 d2 p0 q0 y1 hA hX
          clear hV
          (go_region_held3 (fun w' => w'.cell? ⟨wr.heap.size, 0, none⟩ = some (.int .i64 ht) ∧ w'.cell? ⟨wr.heap.size, 1, none⟩ = some (.int .i64 hf) ∧ w'.cell? ⟨wr.heap.size, 2, none⟩ = some (.int .i64 hfr) ∧ w'.cell? ⟨w.heap.size, 1, none⟩ = some (.slice (some ⟨bp, op, none⟩) np nc) ∧ w'.cell? ⟨bp, op + i, none⟩ = some (.slice (some ⟨bi, oi, none⟩) (f i).nl lpc) ∧ w'.cell? ⟨bi, oi + k, none⟩ = some (.int .i64 ((P i).s k))) (first | go_keep | (go_split_ands; refine ⟨?_, ?_, ?_, ?_, ?_, ?_⟩ <;> exact cellLater hB4 (by assumption))) ((first | (go_at_call 60; refine (hmet _).mono ?_; rintro e W4 ⟨rfl, hB4⟩))))
          go_wp2
          go_roundw
          case rel => exact ⟨r + 1, by omega, by go_num, fun j x hj hx => (by by_cases e : j = r; (· subst e; rw [hh] at hx; cases hx; exact hhit); (· exact hall j x (by omega) hx)), Below.join (Below.join hB (Nat.le_refl _) hA.drew) (Nat.le_refl _) hB4⟩
          case measure => simp [intOf]; omega
        · rw [hm] at hhit
          have hmet := fun V => metBy_any ⟨ht, hf, hfr⟩ i ((P i).s k) V
          rw [hm] at hmet
          dsimp only at hmet
          clear hm
          rw [find_first hh hhit hall] at hE
          dsimp only at hE
          go_wp2
          refine nameW fun V hV => ?_
          rw [← hV] at d0 d1 d2 p0 q0 y1 hA hX
          clear hV
          (go_region_held3 (fun w' => w'.cell? ⟨wr.heap.size, 0, none⟩ = some (.int .i64 ht) ∧ w'.cell? ⟨wr.heap.size, 1, none⟩ = some (.int .i64 hf) ∧ w'.cell? ⟨wr.heap.size, 2, none⟩ = some (.int .i64 hfr) ∧ w'.cell? ⟨w.heap.size, 1, none⟩ = some (.slice (some ⟨bp, op, none⟩) np nc) ∧ w'.cell? ⟨bp, op + i, none⟩ = some (.slice (some ⟨bi, oi, none⟩) (f i).nl lpc) ∧ w'.cell? ⟨bi, oi + k, none⟩ = some (.int .i64 ((P i).s k))) (first | go_keep | (go_split_ands; refine ⟨?_, ?_, ?_, ?_, ?_, ?_⟩ <;> exact cellLater hB4 (by assumption))) ((first | (go_at_call 60; refine (hmet _).mono ?_; rintro e W4 ⟨rfl, hB4⟩))))
          have hJ4 := Below.join (Below.refl V.heap.size V).drew (Nat.le_refl _) hB4
          replace hX := hX.later hJ4
          replace d0 := cellLater hJ4 d0
          have r0 := hX.r0
          have r1 := hX.r1
          have r2 := hX.r2
          have r3 := hX.r3
          have z0 := hX.z0
          have z1 := hX.z1
          have z2 := hX.z2
          have z3 := hX.z3
          go_wp2
          refine bodyPost_ret (v := .agg #[.int .i64 3, .int .i64 i, .int .i64 k, .int .i64 ht]) (by simp [results, Tryz.results27, go_sem, r0, r1, r2, r3]) rfl ⟨by first | (rw [hE]; rfl) | (subst hE; rfl), ?_⟩
          exact below_set4 (Below.join (Below.join (Below.join hN (Nat.le_refl _) hB) (Nat.le_refl _) hA) (Nat.le_refl _) hJ4) (by omega) _ _ _ _
    · have hlt' : (L.length : Int) ≤ (r : Int) := by omega
      rw [find_no (fun j x hj hx => hall j x (by omega) hx)] at hE
      dsimp only at hE
      replace hX := hX.later hB
      have r0 := hX.r0
      have r1 := hX.r1
      have r2 := hX.r2
      have r3 := hX.r3
      have z0 := hX.z0
      have z1 := hX.z1
      have z2 := hX.z2
      have z3 := hX.z3
      clear hlt hr
      go_wp2
      refine bodyPost_ret (v := .agg #[.int .i64 0, .int .i64 0, .int .i64 0, .int .i64 0]) (by simp [results, Tryz.results27, go_sem, r0, r1, r2, r3]) rfl ⟨by first | (rw [hE]; rfl) | (subst hE; rfl), ?_⟩
      exact below_set4 (Below.join hN (Nat.le_refl _) hB) (by omega) _ _ _ _

set_option maxRecDepth 20000 in
set_option maxHeartbeats 8000000 in
theorem stationFull_any (a : Option Addr) (len cap : Nat) (g : Nat → Int) (gap : Int) (a' : Option Addr) (np cap' : Nat) (f : Nat → TrainD) (c : Option Addr) (nc b0 bT bS n : Nat) (mT mS : Int → Value) (LT : Int → List HoldD) (P : Nat → RowD) (i k : Nat) (w : World)
    (hR : RightL len np f) (hG : RightG len g gap np f) (hQ : RightP np f np P) (hi : i < np) (hk : k < (f i).nl) (hI : IsInts 0 w.heap.size w a len g) (hT : IsTrains 0 w.heap.size w a' np f) (hP : IsRows 0 w.heap.size w c np P) (hGr : Gr w b0 bT bS n mT mS LT (listS np f P)) :
    Calls Tryz.prog 28 #[.agg #[.slice a' np cap', .slice c np nc, .slice a len cap, .map (some bT), .map (some bS)], .int .i64 i, .int .i64 k] w fun e w' => e = .returned (clashV (fullC g np f P i k)) ∧ Below w.heap.size w w' := by
  have hX := LookBox.new w a len cap a' np cap' c nc bT bS 62 33
  have hN := b2 w (.cells #[.slice a' np cap', .slice c np nc, .slice a len cap, .map (some bT), .map (some bS)] 62) (.cells #[.int .i64 0, .int .i64 0, .int .i64 0, .int .i64 0] 33)
  have htr := hR.tr
  have hRi := hR.train i hi
  have hnl := hRi.nl
  obtain ⟨x0, x1⟩ := hR.to i hi k hk
  have hst := hR.st
  have hi' : (i : Int) < (np : Int) := by omega
  have hi0 : (0 : Int) ≤ (i : Int) := by omega
  have hk' : (k : Int) < ((f i).nl : Int) := by omega
  have hk0 : (0 : Int) ≤ (k : Int) := by omega
  obtain ⟨b, off, la, lc, rfl, _, hb, _, _, _, _, t4, hlg, _⟩ := hT i hi
  obtain ⟨bl, ol, rfl, _, hbl, g0, _, _⟩ := hlg k hk
  obtain ⟨bp, op, lp, lpc, rfl, _, hbp, p0, hin, _⟩ := hP i hi
  rw [hQ.row i hi] at p0 hin
  obtain ⟨bi, oi, rfl, _, hbi, q0⟩ := hin k hk
  have hE : fullC g np f P i k = if g ((f i).leg k).to.toNat < ((listS np f P ((f i).leg k).to).countP (metB i ((P i).s k)) : Int) then (4, (i : Int), (k : Int), 0) else (0, 0, 0, 0) := rfl
  generalize fullC g np f P i k = vv at hE ⊢
  obtain ⟨q, hq⟩ : ∃ q : Nat, ((f i).leg k).to = (q : Int) := ⟨((f i).leg k).to.toNat, by omega⟩
  rw [hq] at g0 hE x1
  rw [Int.toNat_natCast] at hE
  clear hq x0
  have hql : q < len := by omega
  obtain ⟨ba, oa, rfl, _, hba, w0⟩ := hI q hql
  have hll : (listS np f P (q : Int)).length ≤ 10 := Nat.le_trans (allH_len f np) hG.legs
  replace t4 := cellLater hN t4
  replace g0 := cellLater hN g0
  replace p0 := cellLater hN p0
  replace q0 := cellLater hN q0
  replace w0 := cellLater hN w0
  replace hGr := hGr.later hN
  obtain ⟨ha, hc, hv, hcs⟩ := isHolds_of (hGr.oS (q : Int))
  have hlk := hGr.kS.lookup Tryz.underlying3 Tryz.underlying60 (Tryz.zeroHolds _) (x := (q : Int)) (wf_small (by omega) (by omega))
  rw [hv] at hlk
  generalize listS np f P (q : Int) = L at hE hcs hlk hll
  clear hv hGr
  have y0 := hX.h0
  have y4 := hX.h4
  have hq0 : (0 : Int) ≤ (q : Int) := by omega
  go_enter Tryz.func28, Tryz.ntmps28
  go_wp2
  refine nameW fun W3 hW => ?_
  rw [← hW] at hX hN p0 q0 w0 hcs
  clear hW y0 y4 hlk t4 g0
  replace hcs : IsHolds W3 (.slice ha L.length hc) L := ⟨ha, hc, rfl, hcs⟩
  go_loopw [8, 26] (fun cc rr wr => ∃ (r : Nat), r ≤ L.length ∧ rr = .int .i64 r ∧ cc = .int .i64 ((L.take r).countP (metB i ((P i).s k)) : Nat) ∧ Below W3.heap.size W3 wr) (fun _ rr _ => L.length - (intOf rr).toNat)
  case atStart => exact ⟨0, Nat.zero_le _, rfl, by simp, Below.refl _ _⟩
  case round =>
    obtain ⟨r, hr, rfl, rfl, hB⟩ := hrel
    by_cases hlt : r < L.length
    · obtain ⟨h, hh⟩ : ∃ h, L[r]? = some h := ⟨L[r], List.getElem?_eq_getElem hlt⟩
      have hct := count_take (p := metB i ((P i).s k)) hh
      have hcl : (L.take r).countP (metB i ((P i).s k)) ≤ 10 := Nat.le_trans List.countP_le_length (by rw [List.length_take]; omega)
      obtain ⟨_, _, e9, hcs9⟩ := hcs
      cases e9
      obtain ⟨gg, go, rfl, c0, c1, c2⟩ := hcs9 r h hh
      have hlt' : (r : Int) < (L.length : Int) := by omega
      have hr0 : (0 : Int) ≤ (r : Int) := by omega
      replace c0 := cellLater hB c0
      replace c1 := cellLater hB c1
      replace c2 := cellLater hB c2
      have hA := b1 wr (.cells #[.int .i64 h.tr, .int .i64 h.frm, .int .i64 h.free] 78)
      obtain ⟨d0, d1, d2⟩ := new3 wr (.int .i64 h.tr) (.int .i64 h.frm) (.int .i64 h.free) 78
      replace p0 := cellLater hA (cellLater hB p0)
      replace q0 := cellLater hA (cellLater hB q0)
      have y1 := cellLater hA (cellLater hB hX.h1)
      obtain ⟨ht, hf, hfr⟩ := h
      dsimp only at c0 c1 c2 d0 d1 d2 hA p0 q0 y1
      have hmet := fun V => metBy_any ⟨ht, hf, hfr⟩ i ((P i).s k) V
      dsimp only at hmet
      generalize hcn : (L.take r).countP (metB i ((P i).s k)) = cn at hct hcl
      cases hm : metB i ((P i).s k) ⟨ht, hf, hfr⟩
      · rw [hm] at hmet hct
        simp only [Bool.false_eq_true, if_false, Nat.add_zero] at hct
        clear hm hcn
        go_wp2
        refine nameW fun V hV => ?_
        rw [← hV] at d0 d1 d2 p0 q0 y1 hA
        clear hV
        go_region_held3 (fun w' => w'.cell? ⟨wr.heap.size, 0, none⟩ = some (.int .i64 ht) ∧ w'.cell? ⟨wr.heap.size, 1, none⟩ = some (.int .i64 hf) ∧ w'.cell? ⟨wr.heap.size, 2, none⟩ = some (.int .i64 hfr) ∧ w'.cell? ⟨w.heap.size, 1, none⟩ = some (.slice (some ⟨bp, op, none⟩) np nc) ∧ w'.cell? ⟨bp, op + i, none⟩ = some (.slice (some ⟨bi, oi, none⟩) (f i).nl lpc) ∧ w'.cell? ⟨bi, oi + k, none⟩ = some (.int .i64 ((P i).s k))) (first | go_keep | (go_split_ands; refine ⟨?_, ?_, ?_, ?_, ?_, ?_⟩ <;> exact cellLater hB4 (by assumption))) ((first | (go_at_call 60; refine (hmet _).mono ?_; rintro e W4 ⟨rfl, hB4⟩)))
        go_wp2
        go_roundw
        case rel => exact ⟨r + 1, by omega, by go_num, by rw [hct], Below.join (Below.join hB (Nat.le_refl _) hA.drew) (Nat.le_refl _) hB4⟩
        case measure => simp [intOf]; omega
      · rw [hm] at hmet hct
        simp only [if_true] at hct
        clear hm hcn
        go_wp2
        refine nameW fun V hV => ?_
        rw [← hV] at d0 d1 d2 p0 q0 y1 hA
        clear hV
        go_region_held3 (fun w' => w'.cell? ⟨wr.heap.size, 0, none⟩ = some (.int .i64 ht) ∧ w'.cell? ⟨wr.heap.size, 1, none⟩ = some (.int .i64 hf) ∧ w'.cell? ⟨wr.heap.size, 2, none⟩ = some (.int .i64 hfr) ∧ w'.cell? ⟨w.heap.size, 1, none⟩ = some (.slice (some ⟨bp, op, none⟩) np nc) ∧ w'.cell? ⟨bp, op + i, none⟩ = some (.slice (some ⟨bi, oi, none⟩) (f i).nl lpc) ∧ w'.cell? ⟨bi, oi + k, none⟩ = some (.int .i64 ((P i).s k))) (first | go_keep | (go_split_ands; refine ⟨?_, ?_, ?_, ?_, ?_, ?_⟩ <;> exact cellLater hB4 (by assumption))) ((first | (go_at_call 60; refine (hmet _).mono ?_; rintro e W4 ⟨rfl, hB4⟩)))
        go_wp2
        go_roundw
        case rel => exact ⟨r + 1, by omega, by go_num, by rw [hct]; go_num, Below.join (Below.join hB (Nat.le_refl _) hA.drew) (Nat.le_refl _) hB4⟩
        case measure => simp [intOf]; omega
    · have hlt' : (L.length : Int) ≤ (r : Int) := by omega
      have hre : L.take r = L := List.take_of_length_le (by omega)
      rw [hre]
      replace hX := hX.later hB
      replace w0 := cellLater hB w0
      have y2 := hX.h2
      have r0 := hX.r0
      have r1 := hX.r1
      have r2 := hX.r2
      have r3 := hX.r3
      have z0 := hX.z0
      have z1 := hX.z1
      have z2 := hX.z2
      have z3 := hX.z3
      generalize L.countP (metB i ((P i).s k)) = cn at hE ⊢
      clear hlt hr hre hcs
      by_cases hbad : g q < (cn : Int)
      · rw [if_pos hbad] at hE
        have hbad' : (cn : Int) > g q := hbad
        go_wp2
        refine bodyPost_ret (v := .agg #[.int .i64 4, .int .i64 i, .int .i64 k, .int .i64 0]) (by simp [results, Tryz.results28, go_sem, r0, r1, r2, r3]) rfl ⟨by first | (rw [hE]; rfl) | (subst hE; rfl), ?_⟩
        exact below_set4 (Below.join hN (Nat.le_refl _) hB) (by omega) _ _ _ _
      · rw [if_neg hbad] at hE
        go_wp2
        refine bodyPost_ret (v := .agg #[.int .i64 0, .int .i64 0, .int .i64 0, .int .i64 0]) (by simp [results, Tryz.results28, go_sem, r0, r1, r2, r3]) rfl ⟨by first | (rw [hE]; rfl) | (subst hE; rfl), ?_⟩
        exact below_set4 (Below.join hN (Nat.le_refl _) hB) (by omega) _ _ _ _
end Go.Proofs.YtelickcfodcmaaaGreatDoor
